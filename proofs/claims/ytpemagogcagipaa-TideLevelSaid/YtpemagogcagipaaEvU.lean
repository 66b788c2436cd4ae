import Derived.Test.YtpemagogcagipaaEvT
set_option linter.all false
namespace Go.Ev
open Go.RowKit (Below)

/-- The marks are met, one after the other: each block is shut. -/
theorem leaveM {F : Fence} {n : Nat} {P : Program} {fn : Func} {tmps : Array Value} {R : Ending → World → Prop} : ∀ (ms : List Nat) (w : World), ms.Nodup → (∀ r, r ∈ ms → w.heap[r]? = some (.deferred (some []))) →
    (∀ w2 : World, (∀ b, b ∉ ms → w2.heap[b]? = w.heap[b]?) → w2.heap.size = w.heap.size → (w2.os = w.os ∧ w2.tape = w.tape ∧ w2.output = w.output ∧ ∀ a : Addr, w2.frozen? a = w.frozen? a) → LeavesInM F n P fn tmps R [] .returning w2) → LeavesInM F n P fn tmps R (ms.map mark) .returning w
  | [], w, _, _, h => h w (fun _ _ => rfl) rfl ⟨rfl, rfl, rfl, fun _ => rfl⟩
  | r :: ms, w, hn, hm, h => by
    have hr := hm r (by simp)
    rw [List.nodup_cons] at hn
    refine ⟨by simp, .inl ⟨r, w.putObj r (.deferred none), rfl, run_takeDeferred hr, ?_⟩⟩
    refine leaveM ms _ hn.2 (fun q hq => ?_) fun w2 h1 h2 h3 => ?_
    · rw [World.putObj_heap_other (show q ≠ r from fun e => hn.1 (e ▸ hq))]
      exact hm q (by simp [hq])
    · refine h w2 (fun b hb => ?_) (by rw [h2]; simp [World.putObj]) ⟨h3.1, h3.2.1, h3.2.2.1, fun a => (h3.2.2.2 a).trans (frozen_put w r _ (fun _ _ _ h => by cases h) (fun _ _ _ h => by rw [hr] at h; cases h) a)⟩
      simp only [List.mem_cons, not_or] at hb
      rw [h1 b hb.2, World.putObj_heap_other hb.1]

theorem results_run {P : Program} {fn : Func} {tmps : Array Value} {w : World} {vs : List Value} (h : (fn.results.toList.mapM fun
        | .tmp t => pure (tmps.getD t undef)
        | .cell a t => do loadVar t (← asAddr (tmps.getD a undef)) : Sem (List Value)).run P w = .ok vs w) : (_root_.Go.results fn tmps).run P w = .ok (if h : vs.length = 1 then vs[0] else .tuple vs.toArray) w := by
  unfold _root_.Go.results
  rw [Sem.run_bind, Array.mapM_eq_mapM_toList]
  simp only [Sem.run_map]
  erw [h]
  simp only [Result.andThen_ok, Sem.run_pure]
  congr 1
theorem DV_one {γ : Gh} {w : World} {ds : List D} {vs : List Value} (h : DVL γ w ds vs) : DV γ w (one ds) (if h : vs.length = 1 then vs[0] else .tuple vs.toArray) := by
  obtain ⟨h1, h2⟩ := DVL_iff.1 h
  unfold one
  split
  · rename_i d
    have h3 : vs.length = 1 := by rw [← h1]; rfl
    rw [dif_pos h3]
    exact h2 0 d _ rfl (List.getElem?_eq_getElem (by omega))
  · rename_i hne
    have h3 : vs.length ≠ 1 := by
      intro h3
      rw [← h1] at h3
      obtain ⟨d, hd⟩ := List.length_eq_one_iff.1 h3
      exact hne d hd
    rw [dif_neg h3]
    unfold DV
    exact ⟨_, rfl, h⟩

theorem compF_ok {P : Program} {f : Nat} {rf : RF} (h : compF P f = some rf) : ∃ fn c rs, P.funcs[f]? = some fn ∧ fn.body = some c ∧ compR P fn.results.toList = some rs ∧ (fn.name == "runtime.NumGoroutine") = false ∧ rf = ⟨fn.ntmps, comp P fn.ntmps c, rs, none⟩ := by
  unfold compF at h
  split at h
  · rename_i fn hf
    split at h
    · rename_i c rs hb hr
      cases hn : (fn.name == "runtime.NumGoroutine") with
      | true => rw [hn] at h; cases h
      | false =>
        rw [hn] at h
        cases h
        exact ⟨fn, c, rs, hf, hb, hr, hn, rfl⟩
    · cases h
  · cases h

theorem callsIn_ro {ro : Option Nat} {n : Nat} {P : Program} {f : FuncId} {args : Array Value} {w : World} {R : Ending → World → Prop} (h : CallsIn (FW none) n P f args w R) : CallsIn (FW ro) n P f args w R := h

/-- A mark in a list of marks. -/
theorem mark_mem {r : Nat} {ms : List Nat} : mark r ∈ ms.map mark ↔ r ∈ ms := by
  constructor
  · intro h
    obtain ⟨q, h1, h2⟩ := List.mem_map.1 h
    have : q = r := by
      unfold mark at h2
      cases h2; rfl
    exact this ▸ h1
  · exact fun h => List.mem_map.2 ⟨r, h, rfl⟩

section
variable {P : Program} {FP : T RF} {ex : RC → X → Option (Ex × X)}

/-- A call, off a run of its body. -/
theorem body_ok {f : Nat} {fn : Func} {c : Code} {rs : List RR} {ds : List D} {sl : T D} {ob : T C} {nx : Pos} {lg : Option (T Bool)} {k : D → T C → Pos → Option (T Bool) → Option X} {Z : X} (hf : P.funcs[f]? = some fn) (hb : fn.body = some c) (hr : compR P fn.results.toList = some rs) (hname : (fn.name == "runtime.NumGoroutine") = false)
    (hlen : ds.length ≤ fn.ntmps) (hsl : ∀ s d, sl.get s = some d → (T.e : T D).get s = some d ∨ ∃ i : Nat, s.nat = Pos.h.nat + i ∧ ds[i]? = some d) {e : Ex} {sl' : T D} {ob1 : T C} {nx1 : Pos} {lg1 : Option (T Bool)} (he : e = .normal ∨ e = .ret)
    (X1 : XOk P fn.ntmps c ⟨sl, ob, nx, lg⟩ e ⟨sl', ob1, nx1, lg1⟩) (hres : results rs sl' ob1 lg1 (fun ds lg => k (one ds) ob1 nx1 lg) = some Z) :
    ∃ v ob' nx' lg', k v ob' nx' lg' = some Z ∧ CallOk P f ds ob nx lg v ob' nx' lg' := by
  obtain ⟨rds, lg2, h2, h3, h4⟩ := results_ok hr hres
  refine ⟨one rds, ob1, nx1, lg2, h2, X1.lg.trans h3, X1.nx, (fun id hn => X1.obf id fun hw => hn (h3.w id hw)), fun so hso γ args w gh hargs hob hnx => ⟨run_callFunc hf hb hname args, fun ro n R hR => callsIn_ro ?_⟩⟩
  have hasz : args.size = ds.length := by have := (DVL_iff.1 hargs).1; simpa using this.symm
  have hsz : (args ++ Array.replicate (fn.ntmps - args.size) undef).size = fn.ntmps := by simp; omega
  have g0 : G none γ { tmps := args ++ Array.replicate (fn.ntmps - args.size) undef, defers := [] } w := ⟨gh.ob, gh.inj, ⟨[], rfl, List.nodup_nil, fun r hr => by cases hr⟩, (fun l hl => by cases hl), gh.im, gh.gl⟩
  refine callsIn_of_wp_marks hf hb trivial (X1.ok so (fun id hid => hso id (h3.t id hid)) none γ _ w hsz g0 ⟨fun s d _ hd => ?_, hob, hnx, gh.gl⟩ n _ fun γ' a' w' cst rep => ?_) rfl
  · rcases hsl s d hd with h5 | ⟨i, h5, h6⟩
    · rw [T.get_e] at h5; cases h5
    · have hi : i < args.size := by have := (List.getElem?_eq_some_iff.1 h6).1; omega
      have hix : s.ix = i := by
        unfold Pos.ix
        rw [h5]
        show 1 + i - 1 = i
        omega
      rw [hix]
      refine ⟨by rw [hsz]; omega, ?_⟩
      have hav : (args ++ Array.replicate (fn.ntmps - args.size) undef).getD i undef = args[i] := by
        simp [Array.getD, hi, Array.getElem_append_left]
        omega
      show DV γ w d ((args ++ Array.replicate (fn.ntmps - args.size) undef).getD i undef)
      rw [hav]
      exact (DVL_iff.1 hargs).2 i d _ h6 (by simp [hi])
  · have fin : LeavesInM (FW none) n P fn a'.tmps R a'.defers .returning w' := by
      obtain ⟨ms, d1, d2, d3⟩ := cst.g.df
      rw [d1]
      refine leaveM ms w' d2 (fun r hr => (d3 r hr).1) fun w2 e1 e2 e3 => ?_
      have hnew : ∀ r, r ∈ ms → w.heap.size ≤ r := by
        intro r hr
        rcases cst.dn r (by rw [d1]; exact mark_mem.2 hr) with h5 | h5
        · cases h5
        · exact h5
      have hown : ∀ id st, st < γ'.cur id → (γ'.β id st).1 ∉ ms := fun id st hst hm => (d3 _ hm).2 id st hst rfl
      have U : Up γ' γ' w' w2 := ⟨fun _ => Nat.le_refl _, fun _ _ _ => rfl, fun b x hx => by
        have hb : b ∉ ms := by
          intro hm
          have := (d3 b hm).1
          unfold World.shape? at hx
          rw [this] at hx
          cases hx
        rw [shape_same (e1 b hb)]; exact hx, fun b hb => ⟨hb, fun o ho => by
        rw [e1 b (fun hm => ?_)]; exact ho
        obtain ⟨⟨vs, e, fr, k1⟩, _⟩ := cst.g.im b hb
        have := (d3 b hm).1
        rw [k1] at this
        cases this⟩⟩
      have hold : ∀ id c, so id → ob1.get id = some c → HoldsO P γ' w2 id c := fun id c hid hc => HoldsO.mono U rfl (fun st hst => e1 _ (hown id st hst)) (rep.ob id c hid hc)
      have hsl2 : ∀ s d, sl'.get s = some d → s.ix < a'.tmps.size ∧ DV γ' w2 d (a'.tmps.getD s.ix undef) := fun s d hd => ⟨(rep.sl s d trivial hd).1, DV.mono U _ _ (rep.sl s d trivial hd).2⟩
      obtain ⟨vs, q1, q2⟩ := h4 hso hsl2 hold
      refine ⟨_, results_run q1, hR γ' w2 _ ⟨fun id st hst => by rw [e2]; exact cst.g.ob id st hst, cst.g.inj, fun b hb => ⟨let ⟨⟨vs, e, fr, k1⟩, _⟩ := cst.g.im b hb; ⟨vs, e, fr, (U.im b hb).2 _ k1⟩, (cst.g.im b hb).2⟩, cst.g.gl.up U⟩ ?_ (DV_one q2) hold rep.nx⟩
      have F := cst.fr.mono h3.w
      exact ⟨F.up.trans U, F.cur, fun b hb hn => by
          rw [e1 b (fun hm => by have := hnew b hm; omega)]
          exact F.blk b hb hn, F.new, F.imn, fun b r hr => by
          obtain ⟨r', hr'⟩ := F.lp b r hr
          refine ⟨r', ?_⟩
          rw [e1 b (fun hm => by have := (d3 b hm).1; rw [hr'] at this; cases this)]
          exact hr', by rw [e2]; exact F.size, e3.1.trans F.os, e3.2.1.trans F.tape, e3.2.2.1.trans F.output, fun a => (e3.2.2.2 a).trans (F.fz a)⟩
    rcases he with rfl | rfl <;> exact fin

theorem callF_ok (hFP : FPok P FP) (IH : ∀ nt c x e Z, ex (comp P nt c) x = some (e, Z) → XOk P nt c x e Z) {f : Pos} {ds : List D} {ob : T C} {nx : Pos} {lg : Option (T Bool)} {k : D → T C → Pos → Option (T Bool) → Option X} {Z : X} (h : callF FP ex f ds ob nx lg k = some Z) :
    ∃ v ob' nx' lg', k v ob' nx' lg' = some Z ∧ CallOk P f.ix ds ob nx lg v ob' nx' lg' := by
  unfold callF at h
  split at h
  · rename_i rf hrf
    split at h
    · rename_i v hkn
      split at h
      · exact ⟨v, ob, nx, lg, h, (hFP f rf hrf).2 v hkn ob nx lg⟩
      · cases h
    rename_i hkn
    obtain ⟨fn, c, rs, hf, hb, hr, hname, rfl⟩ := compF_ok ((hFP f rf hrf).1 hkn)
    cases hle : Nat.ble (List.length ds) fn.ntmps with
    | false => rw [hle] at h; cases h
    | true =>
      rw [hle] at h
      simp only [cond_true] at h
      have hlen := Nat.le_of_ble_eq_true hle
      obtain ⟨sl, h1, hsl⟩ := argsK_ok h
      have main : ∀ e sl' ob1 nx1 lg1, (e = .normal ∨ e = .ret) → ex (comp P fn.ntmps c) ⟨sl, ob, nx, lg⟩ = some (e, ⟨sl', ob1, nx1, lg1⟩) → results rs sl' ob1 lg1 (fun ds lg => k (one ds) ob1 nx1 lg) = some Z →
          ∃ v ob' nx' lg', k v ob' nx' lg' = some Z ∧ CallOk P f.ix ds ob nx lg v ob' nx' lg' := by
        exact fun e sl' ob1 nx1 lg1 he hex hres => body_ok hf hb hr hname hlen hsl he (IH _ _ _ _ _ hex) hres
      split at h1
      · rename_i sl' ob1 nx1 lg1 hex
        exact main .normal sl' ob1 nx1 lg1 (.inl rfl) hex h1
      · rename_i sl' ob1 nx1 lg1 hex
        exact main .ret sl' ob1 nx1 lg1 (.inr rfl) hex h1
      · cases h1
  · cases h
end
end Go.Ev
