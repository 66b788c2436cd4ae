import Derived.Test.YtkbgaadfednjpaaGreatDoorEvURn
import Derived.Test.YtkbgaadfednjpaaGreatDoorEvUDs
import Derived.OpenShut
import Derived.DataReads
import Derived.Below
import Derived.ShutString
import Derived.WalkKit
import Derived.ProofKit
set_option linter.all false
set_option maxHeartbeats 8000000
noncomputable section
namespace Go.Ev
open Go.RowKit (Below Grown)
theorem lU {P : Program} {γ γ1 : Gh} {w w1 : World} {S : Pos -> Prop} {Z Z' : X} (hS : ∀ id, S id) (gh : GH γ1 w1) (F : Fr S γ γ1 w w1) (S' : Shr Z Z') (hob1 : ∀ id c, Z.ob.get id = some c -> HoldsO P γ1 w1 id c) (hzero : ∀ id, Z'.nx.nat <= id.nat -> γ.cur id = 0) :
 ∃ γ2, GH γ2 w1 /\ Fr S γ γ2 w w1 /\ (∀ d d', Fz (fun id => id.nat < Z'.nx.nat) Z.ob d d' -> ∀ v, DV γ1 w1 d v -> DV γ2 w1 d' v) /\ (∀ id c', Z'.ob.get id = some c' -> HoldsO P γ2 w1 id c') /\ ∀ id, Z'.nx.nat <= id.nat -> γ2.cur id = 0 := by
 let γ2 : Gh := ⟨fun id => if id.nat < Z'.nx.nat then γ1.cur id else 0, γ1.β, fun b => γ1.im b \/ ((∃ id st, Z'.nx.nat <= id.nat /\ st < γ1.cur id /\ (γ1.β id st).1 = b) /\ ∃ vs e fr, w1.heap[b]? = some (.cells vs e fr))⟩
 have c2 : ∀ id, id.nat < Z'.nx.nat -> γ2.cur id = γ1.cur id := fun id hid => by show (if _ then _ else _) = _; rw [if_pos hid]
 have c2' : ∀ id, ¬ id.nat < Z'.nx.nat -> γ2.cur id = 0 := fun id hid => by show (if _ then _ else _) = _; rw [if_neg hid]
 have lt2 : ∀ id st, st < γ2.cur id -> id.nat < Z'.nx.nat /\ st < γ1.cur id := fun id st hst => by
  by_cases hid : id.nat < Z'.nx.nat
  ·rw [c2 id hid] at hst; exact ⟨hid, hst⟩
  ·rw [c2' id hid] at hst; exact absurd hst (Nat.not_lt_zero _)
 have fz : ∀ d d', Fz (fun id => id.nat < Z'.nx.nat) Z.ob d d' -> ∀ v, DV γ1 w1 d v -> DV γ2 w1 d' v := fun d d' hf =>
  Fz.ok (γ := γ1) (γ' := γ2) (fun b hb => .inl hb) hob1 (fun id hid => ⟨c2 id hid, rfl⟩) (fun id st vs e fr hid hst hc => .inr ⟨⟨id, st, Nat.not_lt.1 hid, hst, rfl⟩, vs, e, fr, hc⟩) hf
 have fresh : ∀ id st, Z'.nx.nat <= id.nat -> st < γ1.cur id -> w.heap.size <= (γ1.β id st).1 := fun id st hid hst => by
  rcases F.new id st (by rw [hzero id hid]; exact Nat.zero_le _) hst with h | ⟨fZ, h, _⟩
  ·exact h
  ·rw [hzero id hid] at h; exact absurd h (Nat.not_lt_zero _)
 refine ⟨γ2, ⟨fun id st hst => gh.ob id st (lt2 id st hst).2, fun id st id' st' hst hst' he => gh.inj id st id' st' (lt2 id st hst).2 (lt2 id' st' hst').2 he, fun b hb => ?_, gh.gl.im fun _ h => .inl h⟩,
  ⟨⟨fun id => ?_, fun id st hst => F.up.β id st hst, F.up.sh, fun b hb => ⟨.inl (F.up.im b hb).1, (F.up.im b hb).2⟩⟩, fun id hn => absurd (hS id) hn, fun b hb hn => F.blk b hb fun id st _ hst => hn id st (hS id) hst, fun id st h1 h2 => F.new id st h1 (lt2 id st h2).2, fun b hb hlt => ?_, F.lp, F.size, F.os, F.tape, F.output, F.fz⟩,
  fz, fun id c' hc => ?_, fun id hle => c2' id (by omega)⟩
 ·rcases hb with hb | ⟨⟨id', st', h1, h2, h3⟩, h4⟩
  ·exact ⟨(gh.im b hb).1, fun id st hst => (gh.im b hb).2 id st (lt2 id st hst).2⟩
  ·refine ⟨h4, fun id st hst e => ?_⟩
   obtain ⟨k1, k2⟩ := lt2 id st hst
   have e : (γ1.β id st).1 = b := e
   obtain ⟨rfl, _⟩ := gh.inj id st id' st' k2 h2 (e.trans h3.symm)
   omega
 ·by_cases hid : id.nat < Z'.nx.nat
  ·rw [c2 id hid]; exact F.up.cur id
  ·rw [hzero id (Nat.not_lt.1 hid)]; exact Nat.zero_le _
 ·rcases hb with hb | ⟨⟨id', st', h1, h2, h3⟩, h4⟩
  ·exact F.imn b hb hlt
  ·have := fresh id' st' h1 h2
   omega
 ·obtain ⟨hid, c, h1, h2⟩ := S'.ob id c' hc
  have H := hob1 id c h1
  cases h2 with
  | cells hcc =>
    obtain ⟨q0, q1, q2⟩ := H
    refine ⟨q0, (c2 id hid).trans q1, fun st hst => ?_⟩
    obtain ⟨vs, e, fr, q3, q4, q5⟩ := q2 st hst
    refine ⟨vs, e, fr, q3, q4, fun p c' hp hh hd => ?_⟩
    obtain ⟨c, k1, k2, k3⟩ := hcc p c' hp
    obtain ⟨u, k4, k5, k6⟩ := q5 p c k1 (k2 st hh) hd
    exact ⟨u, k4, fz _ _ k3 u k5, k6⟩
  | map hl hm =>
    obtain ⟨q1, en, cl, q2, q3, q4⟩ := H
    refine ⟨(c2 id hid).trans q1, en, cl, q2, by rw [<- hl]; exact q3, fun i e' f he' hf => ?_⟩
    rename_i es es'
    have hi : i < es.length := by rw [hl]; exact (List.getElem?_eq_some_iff.1 he').1
    obtain ⟨k1, k2⟩ := hm i _ e' (List.getElem?_eq_getElem hi) he'
    obtain ⟨k3, k4⟩ := q4 i _ f (List.getElem?_eq_getElem hi) hf
    exact ⟨fz _ _ k1 _ k3, fz _ _ k2 _ k4⟩
  | lp hsl =>
    obtain ⟨q1, l, q2, q3, q4, q5, q6⟩ := H
    refine ⟨(c2 id hid).trans q1, l, q2, q3, q4, fun s d' hs => ?_, q6⟩
    obtain ⟨d, k1, k2⟩ := hsl s d' hs
    exact ⟨(q5 s d k1).1, fz _ _ k2 _ (q5 s d k1).2⟩
  | hole => exact (c2 id hid).trans H
theorem RndOk.shrink {P : Program} {id : Pos} {ds : List D} {ob ob1 ob2 : T C} {nx nx1 nx2 : Pos} {v v' : D} (h : RndOk P id ds ob nx none v ob1 nx1 none) (S : Shr ⟨.e, ob1, nx1, none⟩ ⟨.e, ob2, nx2, none⟩) (hx : nx.nat <= nx2.nat) (hv : Fz (fun id => id.nat < nx2.nat) ob1 v v') :
 RndOk P id ds ob nx none v' ob2 nx2 none := by
 refine ⟨LgLe.refl _, hx, fun id hn => absurd trivial hn, fun so hs γ args w gh hargs hob hnx hcur => ?_⟩
 have hall : ∀ id, so id := fun id => hs id trivial
 obtain ⟨fn, tmps, asg, body, h1, h2⟩ := h.ok so (fun id _ => hall id) γ args w gh hargs hob hnx hcur
 refine ⟨fn, tmps, asg, body, h1, fun ro n R hR => h2 ro n R fun γ1 w1 u g1 F1 hu ho hn => ?_⟩
 obtain ⟨γ2, q1, q2, q3, q4, q5⟩ := lU (P := P) (fun _ => trivial) g1 F1 S (fun id c hc => ho id c (hall id) hc) (fun id hid => hnx id (hall id) (Nat.le_trans hx hid))
 exact hR γ2 w1 u q1 q2 (q3 _ _ hv u hu) (fun id c _ hc => q4 id c hc) (fun id _ hid => q5 id hid)
theorem CallOk.shrink {P : Program} {f : FuncId} {ds : List D} {ob ob1 ob2 : T C} {nx nx1 nx2 : Pos} {v v' : D} (h : CallOk P f ds ob nx none v ob1 nx1 none) (S : Shr ⟨.e, ob1, nx1, none⟩ ⟨.e, ob2, nx2, none⟩) (hx : nx.nat <= nx2.nat) (hv : Fz (fun id => id.nat < nx2.nat) ob1 v v') :
 CallOk P f ds ob nx none v' ob2 nx2 none := by
 refine ⟨LgLe.refl _, hx, fun id hn => absurd trivial hn, fun so hs γ args w gh hargs hob hnx => ?_⟩
 have hall : ∀ id, so id := fun id => hs id trivial
 obtain ⟨h1, h2⟩ := h.ok so (fun id _ => hall id) γ args w gh hargs hob hnx
 refine ⟨h1, fun ro n R hR => h2 ro n R fun γ1 w1 u g1 F1 hu ho hn => ?_⟩
 obtain ⟨γ2, q1, q2, q3, q4, q5⟩ := lU (P := P) (fun _ => trivial) g1 F1 S (fun id c hc => ho id c (hall id) hc) (fun id hid => hnx id (hall id) (Nat.le_trans hx hid))
 exact hR γ2 w1 u q1 q2 (q3 _ _ hv u hu) (fun id c _ hc => q4 id c hc) (fun id _ hid => q5 id hid)
structure FinC (rs : List RR) (v : D) (ob' : T C) (nx' : Pos) (e : Ex) (z : X) : Prop where
 he : e = .normal \/ e = .ret
 hr : ∃ u, results rs z.sl z.ob z.lg (fun ds lg => some ⟨T.set .h (one ds) .e, z.ob, z.nx, lg⟩) = some ⟨T.set .h u .e, z.ob, z.nx, none⟩ /\ Fz (fun id => id.nat < nx'.nat) z.ob u v
 hs : Shr ⟨.e, z.ob, z.nx, none⟩ ⟨.e, ob', nx', none⟩
theorem CallOk.run {P : Program} {f nt : Nat} {rc : RC} {rs : List RR} {ds : List D} {v : D} {ob ob' : T C} {nx nx' : Pos} (F : FnOk P f nt rc rs) (hlen : ds.length <= nt) (hx : nx.nat <= nx'.nat) (h : oV ds .h .e fun sl => Rn P nt rc ⟨sl, ob, nx, none⟩ (FinC rs v ob' nx')) : CallOk P f ds ob nx none v ob' nx' none := by
 obtain ⟨fn, c, h1, h2, h3, h4, h5, h6⟩ := F.ok
 subst h6
 obtain ⟨sl0, h, hsl⟩ := mD h
 obtain ⟨e, ⟨sl, ob1, nx1, lg1⟩, X1, F⟩ := h.ok c h3
 obtain ⟨u, k1, k2⟩ := F.hr
 obtain ⟨v', ob2, nx2, lg2, k3, C⟩ := nI (k := fun v ob nx lg => some ⟨T.set .h v .e, ob, nx, lg⟩) h1 h2 h4 h5 hlen hsl F.he X1 k1
 have k3 := Option.some.inj k3
 have e1 := congrArg (fun t => T.get t .h) (X.mk.inj k3).1
 simp only [T.get_set_same, Option.some.injEq] at e1
 obtain ⟨_, e3, e4, e5⟩ := X.mk.inj k3
 have e3 : ob2 = ob1 := e3
 have e4 : nx2 = nx1 := e4
 have e5 : lg2 = none := e5
 subst e1
 subst e3
 subst e4
 subst e5
 exact C.shrink F.hs hx k2
theorem WCall.at {P : Program} {f : Nat} {ds : List D} {d : Option Pos} {sl : T D} {ob ob' : T C} {nx nx' : Pos} {K : X -> Prop} {v : D} (h : CallOk P f ds ob nx none v ob' nx' none) (k : nL sl ob' nx' none d K v) : WCall P f ds d ⟨sl, ob, nx, none⟩ K := by
 cases d with
 | none => exact ⟨v, _, _, none, _, h, rfl, k⟩
 | some d =>
   obtain ⟨h1, h2⟩ := aT k
   exact ⟨v, _, _, none, _, h, h1, h2⟩
theorem WRnd.at {P : Program} {id : Pos} {ds : List D} {d : Option Pos} {sl : T D} {ob ob' : T C} {nx nx' : Pos} {K : X -> Prop} {v : D} (h : RndOk P id ds ob nx none v ob' nx' none) (k : nL sl ob' nx' none d K v) : WRnd P id ds d ⟨sl, ob, nx, none⟩ K := by
 cases d with
 | none => exact ⟨v, _, _, none, _, h, rfl, k⟩
 | some d =>
   obtain ⟨h1, h2⟩ := aT k
   exact ⟨v, _, _, none, _, h, h1, h2⟩
theorem Rn.rf {P : Program} {nt nt' : Nat} {f : RX} {ps : List Pos} {asg body : Code} {sl : T D} {ob ob2 : T C} {nx nx2 : Pos} {f' : Pos} {first caps : List D} {v : D} {K : Ex -> X -> Prop} (hn : nt' = nt) (hv : bC sl f = some (.fn f' first caps))
 (C : CallOk P f'.ix (first ++ (.yl nx :: caps)) (T.set nx (.lp sl ps nt asg body .ready none) ob) nx.succ none v ob2 nx2 none)
 {tm : T D} {pp : List Pos} {ntt : Nat} {c1 c2 : Code} {st : LS} {j : Option Ex} (hob : ob2.get nx = some (.lp tm pp ntt c1 c2 st j)) (hst : st ≠ .busy)
 (k : K (j.getD .normal) ⟨sl, T.set nx (.lp tm pp ntt c1 c2 .gone j) ob2, nx2, none⟩) : Rn P nt (.rf f ps nt' asg body) ⟨sl, ob, nx, none⟩ K := Rn.of_bare fun c hc hs => by
 subst hn
 refine other hc hs (fun e => by cases e) (fun _ e => by cases e) (fun j _ e => by cases e) (fun i ops _ e => by cases e) (fun i ops _ e => by cases e) (fun _ _ _ e => by cases e) (fun _ _ _ _ _ _ e => by cases e) (fun _ _ _ e => by cases e) (fun _ _ e => by cases e) (fun o psT a b r q e h1 h2 e' => ?_) (fun e => by cases e)
 cases e'
 subst e
 exact ⟨_, _, XOk.rfR (lg := none) (lg1 := none) (lg2 := none) h1 h2 hv (LgLe.refl _) trivial C hob hst rfl, k⟩
def Kk (ps : List Pos) (ds : List D) (t : T D) (k : T D -> Prop) : Prop := ∃ t', vT ps ds t (fun t => some (⟨t, .e, .h, none⟩ : X)) = some ⟨t', .e, .h, none⟩ /\ k t'
def Iv : Ex -> LS
 | .normal => .ready
 | _ => .done
def Id : Ex -> Option Ex
 | .normal => none
 | e => some e
def Hz : Ex -> Bool
 | .normal => true
 | _ => false
theorem RndOk.of {P : Program} {id : Pos} {ds : List D} {ob : T C} {nx : Pos} {sl sl' : T D} {ps : List Pos} {nt : Nat} {asg body : Code} {j0 : Option Ex} (hob0 : ob.get id = some (.lp sl ps nt asg body .ready j0)) (hpar0 : vT ps ds sl (fun t => some (⟨t, .e, .h, none⟩ : X)) = some ⟨sl', .e, .h, none⟩)
 {sl2 : T D} {ob1 : T C} {nx1 : Pos} {a1 : T D} {b1 : List Pos} {m1 : Nat} {c1 d1 : Code} {j1 : Option Ex} (X1 : XOk P nt asg ⟨sl', ob, nx, none⟩ .normal ⟨sl2, ob1, nx1, none⟩) (hob1 : ob1.get id = some (.lp a1 b1 m1 c1 d1 .ready j1))
 {e : Ex} {sl3 : T D} {ob3 : T C} {nx3 : Pos} {a3 : T D} {b3 : List Pos} {m3 : Nat} {c3 d3 : Code} {s3 : LS} {j3 : Option Ex} (X2 : XOk P nt body ⟨sl2, T.set id (.lp a1 b1 m1 c1 d1 .busy j1) ob1, nx1, none⟩ e ⟨sl3, ob3, nx3, none⟩) (hob3 : ob3.get id = some (.lp a3 b3 m3 c3 d3 s3 j3)) :
 RndOk P id ds ob nx none (.b (Hz e)) (T.set id (.lp a3 b3 m3 c3 d3 (Iv e) (Id e)) ob3) nx3 none := by
 obtain ⟨sl'', h1, hplen, hpar⟩ := qZ (γ := ⟨fun _ => 0, fun _ _ => (0, 0), fun _ => False⟩) (w := default) hpar0
 have h1 : sl'' = sl' := (X.mk.inj (Option.some.inj h1)).1
 subst h1
 refine ⟨LgLe.refl _, Nat.le_trans X1.nx X2.nx, fun id hn => absurd trivial hn, fun so hso γ args w gh hargs hob hnx hcur => ?_⟩
 have hall : ∀ id, so id := fun id => hso id trivial
 have hsoid : so id := hall id
 obtain ⟨hc1, l, hl, hst, _, hsl, hps, hpb, hntl, rfl, rfl⟩ := hob id _ hsoid hob0
 obtain ⟨bk, hbk⟩ : ∃ bk, bk = (γ.β id 0).1 := ⟨_, rfl⟩
 rw [<- hbk] at hl ⊢
 have hpsz : args.size = l.params.size := by
  have e1 : l.params.toList.length = ps.length := by rw [hps]; simp
  have e2 := (aK.1 hargs).1
  simp at e1 e2
  omega
 have hfold : (l.params.zip args).foldl (fun tmps (t, a) => tmps.setIfInBounds t a) l.tmps = ((ps.map Pos.ix).zip args.toList).foldl (fun tmps (t, a) => tmps.setIfInBounds t a) l.tmps := by
  rw [<- Array.foldl_toList, Array.toList_zip, hps]
 obtain ⟨hsz, hsl'⟩ := hpar (tmps := l.tmps) hargs hpb hsl
 refine ⟨l.fn, _, l.assign, l.body, run_yield hl hpsz, fun ro n R hR => ?_⟩
 rw [hfold]
 refine roundIn_of_wpIn trivial ?_
 have g0 : G (some bk) γ { tmps := ((ps.map Pos.ix).zip args.toList).foldl (fun tmps (t, a) => tmps.setIfInBounds t a) l.tmps, defers := [] } w :=
  ⟨gh.ob, gh.inj, ⟨[], rfl, List.nodup_nil, fun r hr => by cases hr⟩, (fun l' hl' => by cases hl'; exact ⟨l, hl⟩), gh.im, gh.gl⟩
 refine X1.ok so (fun j _ => hall j) (some bk) γ _ w (by show Array.size _ = nt; rw [hsz]; exact hntl) g0 ⟨fun s d _ hd => ?_, hob, hnx, gh.gl⟩ n _ fun γ1 a1' w1 cst1 rep1 => ?_
 ·show s.ix < Array.size _ /\ _
  rw [hsz]; exact hsl' s d hd
 ·have hβ1 : (γ1.β id 0).1 = bk := by rw [cst1.fr.up.β id 0 hcur, hbk]
  have hcur1 : 0 < γ1.cur id := Nat.lt_of_lt_of_le hcur (cst1.fr.up.cur id)
  obtain ⟨hc2, l1, hl1, hst1, hpd1, hsl1, hps1, hpb1, hnt1, ha1, hb1⟩ := rep1.ob id _ hsoid hob1
  rw [hβ1] at hl1
  refine ⟨_, run_beginRound hl1 (by rw [hst1]; rfl), ?_⟩
  have hlt1 : bk < w1.heap.size := (Array.getElem?_eq_some_iff.1 hl1).1
  have LP := gR (l' := { l1 with state := .busy }) cst1.g hcur1 (by rw [hβ1]; exact hl1)
  rw [hβ1] at LP
  obtain ⟨F2, g2⟩ := LP
  have rep2 : Rep P (eH so) γ1 a1' (w1.putObj bk (.loop { l1 with state := .busy })) ⟨sl2, T.set id (.lp a1 b1 m1 c1 d1 .busy j1) ob1, nx1, none⟩ := by
   refine ⟨fun s d hs hd => ⟨(rep1.sl s d hs hd).1, DV.mono F2.up _ _ (rep1.sl s d hs hd).2⟩, aQ rep1 cst1.g F2 fun _ => ?_, rep1.nx, rep1.gl.up F2.up⟩
   refine ⟨hc2, { l1 with state := .busy }, by rw [hβ1]; exact World.putObj_heap_same hlt1, rfl, hpd1, fun s d hd => ⟨(hsl1 s d hd).1, DV.mono F2.up _ _ (hsl1 s d hd).2⟩, hps1, hpb1, hnt1, ha1, hb1⟩
  have key := X2.ok so hso (some bk) γ1 a1' (w1.putObj bk (.loop { l1 with state := .busy })) (by rw [cst1.sz]; show Array.size _ = nt; rw [hsz]; exact hntl) (g2 _ rfl) rep2 n (roundPost P bk R)
  refine key fun γ3 a3' w3 cst3 rep3 => ?_
  have hβ3 : (γ3.β id 0).1 = bk := by rw [cst3.fr.up.β id 0 hcur1, hβ1]
  have hcur3 : 0 < γ3.cur id := Nat.lt_of_lt_of_le hcur1 (cst3.fr.up.cur id)
  obtain ⟨hc4, l3, hl3, hst3, hpd3, hsl3, hps3, hpb3, hnt3, ha3, hb3⟩ := rep3.ob id _ hsoid hob3
  rw [hβ3] at hl3
  have hlt3 : bk < w3.heap.size := (Array.getElem?_eq_some_iff.1 hl3).1
  have fin : ∀ (jump : Option Code), jump = (Id e).bind Ex.code -> (if jump.isNone then LoopState.ready else .done) = (Iv e).st -> jump.isNone = Hz e -> ∃ v w', (Instr.endRound bk jump).run P w3 = .ok v w' /\ R (.returned v) w' := by
   intro jump hjump hstt hbv
   refine ⟨_, _, run_endRound jump hl3, ?_⟩
   have LP := gR (l' := { l3 with state := if jump.isNone then .ready else .done, pending := jump }) cst3.g hcur3 (by rw [hβ3]; exact hl3)
   rw [hβ3] at LP
   obtain ⟨F4, g4⟩ := LP
   have hw3 : wrtn (none : Option (T Bool)) id := trivial
   refine hR γ3 _ _ (g4 a3' rfl).gh ?_ (by rw [hbv]; exact dD _) (aQ rep3 cst3.g F4 fun _ => ?_) rep3.nx
   ·exact ((cst1.fr.trans (F2.mono fun j e => by rw [e]; exact hw3)).trans cst3.fr).trans (F4.mono fun j e => by rw [e]; exact hw3)
   ·refine ⟨hc4, { l3 with state := if jump.isNone then .ready else .done, pending := jump }, by rw [hβ3]; exact World.putObj_heap_same hlt3, hstt, hjump, fun s d hd => ⟨(hsl3 s d hd).1, DV.mono F4.up _ _ (hsl3 s d hd).2⟩, hps3, hpb3, hnt3, ha3, hb3⟩
  cases e with
  | normal => exact fin none rfl rfl rfl
  | ret => exact fin (some .ret) rfl rfl rfl
  | exit i => exact fin (some (.exit i)) rfl rfl rfl
structure RndB (id : Pos) (d : Option Pos) (sl : T D) (nx0 : Pos) (K : X -> Prop) (e : Ex) (z : X) : Prop where
 ok : ∃ a b m c q s j ob' nx', z.lg = none /\ z.ob.get id = some (.lp a b m c q s j) /\ Shr ⟨.e, T.set id (.lp a b m c q (Iv e) (Id e)) z.ob, z.nx, none⟩ ⟨.e, ob', nx', none⟩ /\ nx0.nat <= nx'.nat /\ nL sl ob' nx' none d K (.b (Hz e))
structure RndA (P : Program) (nt : Nat) (rcB : RC) (id : Pos) (d : Option Pos) (sl : T D) (nx0 : Pos) (K : X -> Prop) (e : Ex) (z : X) : Prop where
 ok : e = .normal /\ z.lg = none /\ ∃ a b m c q j, z.ob.get id = some (.lp a b m c q .ready j) /\ Rn P nt rcB ⟨z.sl, T.set id (.lp a b m c q .busy j) z.ob, z.nx, none⟩ (RndB id d sl nx0 K)
theorem WRnd.run {P : Program} {id : Pos} {ds : List D} {d : Option Pos} {sl : T D} {ob : T C} {nx : Pos} {K : X -> Prop} {sl0 : T D} {ps : List Pos} {nt : Nat} {asg body : Code} {j0 : Option Ex} {rcA rcB : RC} (hob0 : ob.get id = some (.lp sl0 ps nt asg body .ready j0)) (hA : aY P nt asg = rcA) (hB : aY P nt body = rcB)
 (hp : Kk ps ds sl0 fun sl' => Rn P nt rcA ⟨sl', ob, nx, none⟩ (RndA P nt rcB id d sl nx K)) : WRnd P id ds d ⟨sl, ob, nx, none⟩ K := by
 obtain ⟨sl', h1, h2⟩ := hp
 obtain ⟨e, ⟨s2, ob1, nx1, lg1⟩, X1, h3⟩ := h2.ok asg hA
 obtain ⟨rfl, h4, a1, b1, m1, c1, q1, j1, h5, h6⟩ := h3.ok
 have h4 : lg1 = none := h4
 subst h4
 obtain ⟨e, ⟨s3, ob3, nx3, lg3⟩, X2, h7⟩ := h6.ok body hB
 obtain ⟨a3, b3, m3, c3, q3, s3', j3, ob', nx', k1, k2, k3, k4, k5⟩ := h7.ok
 have k1 : lg3 = none := k1
 subst k1
 exact WRnd.at ((RndOk.of hob0 h1 X1 h5 X2 k2).shrink k3 k4 (.pu trivial)) k5
mutual
def Kp (n : Nat) : D -> Prop
 | .pt id _ _ => id.nat < n
 | .yl id => id.nat < n
 | .sl id _ _ _ _ => id.nat < n
 | .mp id => id.nat < n
 | .fn _ x y => KpL n x /\ KpL n y
 | .ag cs => KpL n cs
 | .tp cs => KpL n cs
 | d => Pu d
def KpL (n : Nat) : List D -> Prop
 | [] => True
 | d :: ds => Kp n d /\ KpL n ds
end
mutual
theorem Fz.kp {n : Nat} {ob : T C} : ∀ d : D, Kp n d -> Fz (fun id => id.nat < n) ob d d
 | .pt id _ _, h => .kpt (by unfold Kp at h; exact h)
 | .yl id, h => .kyl (by unfold Kp at h; exact h)
 | .sl id _ _ _ _, h => .ksl (by unfold Kp at h; exact h)
 | .mp id, h => .kmp (by unfold Kp at h; exact h)
 | .fn f x y, h => by
   unfold Kp at h
   exact .fn (FzL.kp x h.1) (FzL.kp y h.2)
 | .ag cs, h => by
   unfold Kp at h
   exact .ag (FzL.kp cs h)
 | .tp cs, h => by
   unfold Kp at h
   exact .tp (FzL.kp cs h)
 | .any, h => .pu (by unfold Kp at h; exact h)
 | .b _, h => .pu (by unfold Kp at h; exact h)
 | .i _ _, h => .pu (by unfold Kp at h; exact h)
 | .s _, h => .pu (by unfold Kp at h; exact h)
 | .np, h => .pu (by unfold Kp at h; exact h)
 | .nf, h => .pu (by unfold Kp at h; exact h)
 | .ni, h => .pu (by unfold Kp at h; exact h)
 | .nm, h => .pu (by unfold Kp at h; exact h)
 | .ns, h => .pu (by unfold Kp at h; exact h)
 | .em, h => .pu (by unfold Kp at h; exact h)
 | .ifc _ _, h => .pu (by unfold Kp at h; exact h)
 | .lst _ _, h => .pu (by unfold Kp at h; exact h)
 | .pl _ _, h => .pu (by unfold Kp at h; exact h)
theorem FzL.kp {n : Nat} {ob : T C} : ∀ ds : List D, KpL n ds -> FzL (fun id => id.nat < n) ob ds ds
 | [], _ => .nil
 | d :: ds, h => by
   unfold KpL at h
   exact .cons (Fz.kp d h.1) (FzL.kp ds h.2)
end
def KpC (n : Nat) : C -> Prop
 | .cells _ cs _ => ∀ c ∈ cs, Kp n c.d
 | .lp sl _ _ _ _ _ _ => ∀ s d, sl.get s = some d -> Kp n d
 | .map es => ∀ e ∈ es, Kp n e.1 /\ Kp n e.2
 | .hole => True
theorem ShC.kp {n : Nat} {ob : T C} : ∀ {c : C}, KpC n c -> ShC (fun id => id.nat < n) ob c c
 | .cells _ _ _, h => ShC.same fun c hc => Fz.kp _ (h c hc)
 | .lp _ _ _ _ _ _ _, h => .lp fun s d hd => ⟨d, hd, Fz.kp _ (h s d hd)⟩
 | .map _, h => .map rfl fun k e e' h1 h2 => by
   rw [h1] at h2
   cases h2
   obtain ⟨k1, k2⟩ := h e (List.mem_of_getElem? h1)
   exact ⟨Fz.kp _ k1, Fz.kp _ k2⟩
 | .hole, _ => .hole
def KpO (n : Nat) (ob : T C) : Prop := ∀ id c, ob.get id = some c -> id.nat < n /\ KpC n c
theorem Shr.kp {ob ob' : T C} {nx nx' : Pos} (h : T.le ob' ob) (k : KpO nx'.nat ob') : Shr ⟨.e, ob, nx, none⟩ ⟨.e, ob', nx', none⟩ :=
 ⟨(fun s d h => by rw [T.get_e] at h; cases h), fun id c hc => ⟨(k id c hc).1, c, h id c hc, ShC.kp (k id c hc).2⟩, rfl, rfl⟩
def TAll {α : Type} (Q : Pos -> α -> Prop) (t : T α) : Prop := ∀ p x, t.get p = some x -> Q p x
theorem TAll.e {α : Type} {Q : Pos -> α -> Prop} : TAll Q .e := fun p x h => by rw [T.get_e] at h; cases h
theorem TAll.none {α : Type} {Q : Pos -> α -> Prop} {l r : T α} (hl : TAll (fun p => Q (.o p)) l) (hr : TAll (fun p => Q (.i p)) r) : TAll Q (.n l none r)
 | .h, x, h => by rw [T.get_h] at h; cases h
 | .o p, x, h => hl p x h
 | .i p, x, h => hr p x h
theorem TAll.some {α : Type} {Q : Pos -> α -> Prop} {l r : T α} {v : α} (hl : TAll (fun p => Q (.o p)) l) (hv : Q .h v) (hr : TAll (fun p => Q (.i p)) r) : TAll Q (.n l (some v) r)
 | .h, x, h => by rw [T.get_h] at h; cases h; exact hv
 | .o p, x, h => hl p x h
 | .i p, x, h => hr p x h
theorem KpL.all {n : Nat} : ∀ {cs : List Cell}, KpL n (cs.map Cell.d) -> ∀ c ∈ cs, Kp n c.d
 | [], _, c, h => by cases h
 | a :: cs, h, c, hc => by
   have h : Kp n a.d /\ KpL n (cs.map Cell.d) := by simpa [KpL] using h
   rcases List.mem_cons.1 hc with rfl | hc
   ·exact h.1
   ·exact KpL.all h.2 c hc
structure RnR (P : Program) (nt : Nat) (rc : RC) (x : X) (K : Ex -> X -> Prop) : Prop where
 ok : ∀ c : Code, aY P nt c = rc -> ∃ e Z, XRounds P nt c x e Z /\ K e Z
def Iw (P : Program) (nt : Nat) (rc : RC) (K : Ex -> X -> Prop) (e : Ex) (z : X) : Prop :=
 match e with
 | .normal => RnR P nt rc z K
 | .ret => K .ret z
 | .exit i => K (.exit i) z
theorem RnR.more {P : Program} {nt : Nat} {rc : RC} {x : X} {K : Ex -> X -> Prop} (h : Rn P nt rc x (Iw P nt rc K)) : RnR P nt rc x K :=
 ⟨fun c hc => by
  obtain ⟨e, z, h1, h2⟩ := h.ok c hc
  cases e with
  | normal =>
    obtain ⟨e, Z, h3, h4⟩ := (show RnR P nt rc z K from h2).ok c hc
    exact ⟨e, Z, .more h1 h3, h4⟩
  | ret => exact ⟨.ret, z, .last h1 (fun e => by cases e), h2⟩
  | exit i => exact ⟨.exit i, z, .last h1 (fun e => by cases e), h2⟩⟩
theorem Rn.rounds {P : Program} {nt : Nat} {a : RC} {x : X} {K : Ex -> X -> Prop} (h : RnR P nt a x K) : Rn P nt (.loop a) x K := Rn.of_bare fun c hc hs => by
 refine other hc hs (fun e => by cases e) (fun _ e => by cases e) (fun j _ e => by cases e) (fun i ops _ e => by cases e) (fun i ops _ e => by cases e) (fun _ _ _ e => by cases e) (fun _ _ _ _ _ _ e => by cases e) (fun _ _ _ e => by cases e) (fun a' e e' => ?_) (fun _ _ _ _ _ _ _ _ _ e => by cases e) (fun e => by cases e)
 cases e'
 subst e
 obtain ⟨e, Z, h1, h2⟩ := h.ok a' rfl
 exact ⟨e, Z, XOk.loop h1, h2⟩
structure FinE (rs : List RR) (Φ : D -> T C -> Prop) (nx' : Pos) (e : Ex) (z : X) : Prop where
 ok : ∃ v ob', Φ v ob' /\ FinC rs v ob' nx' e z
theorem CallOk.runE {P : Program} {f nt : Nat} {rc : RC} {rs : List RR} {ds : List D} {Φ : D -> T C -> Prop} {ob : T C} {nx nx' : Pos} (F : FnOk P f nt rc rs) (hlen : ds.length <= nt) (hx : nx.nat <= nx'.nat) (h : oV ds .h .e fun sl => Rn P nt rc ⟨sl, ob, nx, none⟩ (FinE rs Φ nx')) : ∃ v ob', Φ v ob' /\ CallOk P f ds ob nx none v ob' nx' none := by
 obtain ⟨fn, c, h1, h2, h3, h4, h5, h6⟩ := F.ok
 subst h6
 obtain ⟨sl0, h, hsl⟩ := mD h
 obtain ⟨e, ⟨sl, ob1, nx1, lg1⟩, X1, FE⟩ := h.ok c h3
 obtain ⟨v, ob', hΦ, F⟩ := FE.ok
 refine ⟨v, ob', hΦ, ?_⟩
 obtain ⟨u, k1, k2⟩ := F.hr
 obtain ⟨v', ob2, nx2, lg2, k3, C⟩ := nI (k := fun v ob nx lg => some ⟨T.set .h v .e, ob, nx, lg⟩) h1 h2 h4 h5 hlen hsl F.he X1 k1
 have k3 := Option.some.inj k3
 have e1 := congrArg (fun t => T.get t .h) (X.mk.inj k3).1
 simp only [T.get_set_same, Option.some.injEq] at e1
 obtain ⟨_, e3, e4, e5⟩ := X.mk.inj k3
 have e3 : ob2 = ob1 := e3
 have e4 : nx2 = nx1 := e4
 have e5 : lg2 = none := e5
 subst e1
 subst e3
 subst e4
 subst e5
 exact C.shrink F.hs hx k2
theorem Shr.kp2 {sl sl' : T D} {ob ob' : T C} {nx nx' : Pos} (hs : T.le sl' sl) (ks : ∀ s d, sl'.get s = some d -> Kp nx'.nat d) (h : T.le ob' ob) (k : KpO nx'.nat ob') : Shr ⟨sl, ob, nx, none⟩ ⟨sl', ob', nx', none⟩ :=
 ⟨fun s d h => ⟨d, hs s d h, Fz.kp d (ks s d h)⟩, fun id c hc => ⟨(k id c hc).1, c, h id c hc, ShC.kp (k id c hc).2⟩, rfl, rfl⟩
open Go.RowKit
inductive CK where
 | b
 | i (k : IntKind)
 | sl (r : List CK)
mutual
def fD : CK -> D -> Prop
 | .b, d => ∃ x, d = .b x
 | .i k, d => ∃ n, d = .i k n /\ (Lit.int k n).wf = true
 | .sl r, d => ∃ es, d = .lst r.length es /\ ∀ x ∈ es, FitL r x
def FitL : List CK -> List D -> Prop
 | [], ds => ds = []
 | c :: r, ds => ∃ d ds', ds = d :: ds' /\ fD c d /\ FitL r ds'
end
theorem FitL.length : ∀ {r : List CK} {ds : List D}, FitL r ds -> ds.length = r.length
 | [], ds, h => by unfold FitL at h; subst h; rfl
 | c :: r, ds, h => by
   unfold FitL at h
   obtain ⟨d, ds', rfl, _, h⟩ := h
   simp [FitL.length h]
theorem FitL.append : ∀ {r r' : List CK} {ds ds' : List D}, FitL r ds -> FitL r' ds' -> FitL (r ++ r') (ds ++ ds')
 | [], r', ds, ds', h, k => by unfold FitL at h; subst h; exact k
 | c :: r, r', ds, ds', h, k => by
   unfold FitL at h
   obtain ⟨d, ds1, rfl, h1, h2⟩ := h
   show FitL (c :: (r ++ r')) (d :: (ds1 ++ ds'))
   unfold FitL
   exact ⟨d, _, rfl, h1, FitL.append h2 k⟩
def Gk (P : Program) (g : TypeId -> Option (List CK)) : List Field -> Nat -> Option (List CK)
 | [], _ => some []
 | f :: fs, off => if f.offset = off then
     match g f.type with
     | some r => if r.length = P.cellsOf f.type then
        match Gk P g fs (off + r.length) with
        | some rs => some (r ++ rs)
        | none => none
       else none
     | none => none
   else none
def nY (P : Program) : Nat -> TypeId -> Option (List CK)
 | 0, _ => none
 | n + 1, t => match P.underlying t with
   | some .bool => some [.b]
   | some (.int k) => some [.i k]
   | some (.slice e) =>
     match nY P n e with
     | some r => if r.length = P.cellsOf e /\ 0 < r.length then some [.sl r] else none
     | none => none
   | some (.struct fs) =>
     match Gk P (nY P n) fs.toList 0 with
     | some r => if r.length = P.cellsOf t then some r else none
     | none => none
   | _ => none
def γH (w : World) : Gh := ⟨fun _ => 0, fun _ _ => (0, 0), fun b => ∃ vs e fr, w.heap[b]? = some (.cells vs e fr)⟩
theorem Pe {w : World} (hL : LRok w) : GH (γH w) w := ⟨fun _ st h => absurd h (Nat.not_lt_zero st), fun _ st _ _ h => absurd h (Nat.not_lt_zero st), fun _ h => ⟨h, fun _ st h => absurd h (Nat.not_lt_zero st)⟩, fun g r h => ⟨let ⟨vs, e, fr, h1, _⟩ := hL g r h; ⟨vs, e, fr, h1⟩, hL g r h⟩⟩
theorem Cp {γ : Gh} {w : World} {z : Nat} : ∀ {es : List (List D)} {vs : List Value}, (∀ (i : Nat) r, es[i]? = some r -> r.length = z /\ DVL γ w r ((vs.drop (i * z)).take z)) -> DVE γ w z es vs
 | [], vs, _ => by unfold DVE; trivial
 | r :: es, vs, h => by
   unfold DVE
   obtain ⟨h1, h2⟩ := h 0 r rfl
   refine ⟨h1, by simpa using h2, Cp fun i r' hi => ?_⟩
   obtain ⟨h3, h4⟩ := h (i + 1) r' (by simpa using hi)
   refine ⟨h3, ?_⟩
   rw [List.drop_drop, show z + i * z = (i + 1) * z by rw [Nat.add_mul]; omega]
   exact h4
def ME (w : World) (r : List CK) (cs : List Value) : Prop := ∃ ds, FitL r ds /\ DVL (γH w) w ds cs /\ ∀ u ∈ cs, u.oneCell' = true
theorem AD {P : Program} {w : World} {g : TypeId -> Option (List CK)} {cs : List Value} : ∀ {fs : List Field} {off : Nat} {r : List CK}, Gk P g fs off = some r -> (∀ f ∈ fs, ∀ r', g f.type = some r' -> ME w r' ((cs.drop f.offset).take (P.cellsOf f.type))) -> off + r.length = cs.length -> ME w r (cs.drop off)
 | [], off, r, h, _, hl => by
   cases h
   rw [List.drop_of_length_le (by simp at hl; omega)]
   exact ⟨[], by unfold FitL; rfl, DVL.nil, fun u hu => by cases hu⟩
 | f :: fs, off, r, h, hf, hl => by
   unfold Gk at h
   split at h
   ·rename_i ho
    split at h
    ·rename_i r1 hr1
     split at h
     ·rename_i hlen
      split at h
      ·rename_i rs hrs
       cases h
       rw [List.length_append] at hl
       obtain ⟨d1, f1, v1, o1⟩ := hf f (by simp) r1 hr1
       obtain ⟨d2, f2, v2, o2⟩ := AD hrs (fun f hm => hf f (by simp [hm])) (by omega)
       rw [ho, <- hlen] at v1 o1
       have e : cs.drop off = (cs.drop off).take r1.length ++ cs.drop (off + r1.length) := by
        rw [<- List.drop_drop]; exact (List.take_append_drop _ _).symm
       refine ⟨d1 ++ d2, f1.append f2, by rw [e]; exact v1.append v2, fun u hu => ?_⟩
       rw [e] at hu
       rcases List.mem_append.1 hu with hu | hu
       ·exact o1 u hu
       ·exact o2 u hu
      ·cases h
     ·cases h
    ·cases h
   ·cases h
theorem pA {α : Type} {Q : Nat -> α -> Prop} : ∀ (n : Nat), (∀ i, i < n -> ∃ y, Q i y) -> ∃ l : List α, l.length = n /\ ∀ (i : Nat) y, l[i]? = some y -> Q i y
 | 0, _ => ⟨[], rfl, fun i y h => by simp at h⟩
 | n + 1, h => by
   obtain ⟨l, h1, h2⟩ := pA n fun i hi => h i (by omega)
   obtain ⟨y, hy⟩ := h n (by omega)
   refine ⟨l ++ [y], by simp [h1], fun i z hz => ?_⟩
   by_cases e : i < l.length
   ·rw [List.getElem?_append_left e] at hz
    exact h2 i z hz
   ·rw [List.getElem?_append_right (by omega)] at hz
    have : i - l.length = 0 := by
     cases e2 : i - l.length with
     | zero => rfl
     | succ k => rw [e2] at hz; simp at hz
    rw [this] at hz
    simp at hz
    subst hz
    rw [show i = n by omega]
    exact hy
theorem zA {w : World} {b o : Nat} {v : Value} (h : w.cell? ⟨b, o, none⟩ = some v) : ∃ vs e fr, w.heap[b]? = some (.cells vs e fr) /\ vs[o]? = some v := by
 unfold World.cell? at h
 split at h
 ·rename_i vs e fr hb
  exact ⟨vs, e, fr, hb, by simpa using h⟩
 ·cases h
theorem FH {w : World} {b o : Nat} {vs : Array Value} {e : TypeId} {fr : Nat × Nat} (h : w.heap[b]? = some (.cells vs e fr)) : w.cell? ⟨b, o, none⟩ = vs[o]? := by
 unfold World.cell?
 rw [h]; rfl
theorem tH {w : World} {base : Nat} {a : Addr} {n : Nat} {cs : List Value} (h : w.cells? base a n = some cs) : cs.length = n /\ ∀ i, i < n -> w.cell? (a.add i) = cs[i]? := by
 unfold World.cells? at h
 split at h
 ·refine ⟨by simpa using mapM_some_length h, fun i hi => mapM_some_get h i i (by simp [hi])⟩
 ·cases h
section
variable {H : Type} {enc : TypeId × Value -> H} {P : Program} {w : World} {base : Nat} {spare : Nat -> Bool} {held : Bool}
theorem mJ : ∀ (n : Nat) {t : TypeId} {r : List CK} {m : Nat} {cs : List Value} {x : DataW H × List MemPlace}, nY P n t = some r -> DataW.trod enc P w base spare held m t cs = some x -> ME w r cs
 | 0, t, r, m, cs, x, h, k => by cases h
 | n + 1, t, r, m, cs, x, h, k => by
   unfold nY at h
   split at h
   ·rename_i ht
    cases h
    obtain ⟨b, rfl, _⟩ := DataW.trod_bool ht k
    exact ⟨[.b b], by simp [FitL, fD], DVL.cons (dD _) DVL.nil, fun u hu => by simp at hu; subst hu; rfl⟩
   ·rename_i kk ht
    cases h
    obtain ⟨v, rfl, _, hw⟩ := DataW.trod_int ht k
    exact ⟨[.i kk v], by simp [FitL, fD, hw], DVL.cons (by unfold DV; rfl) DVL.nil, fun u hu => by simp at hu; subst hu; rfl⟩
   ·rename_i e ht
    split at h
    ·rename_i re hre
     split at h
     ·rename_i hz
      cases h
      obtain ⟨hz, hpos⟩ := hz
      rcases DataW.trod_slice ht k with ⟨rfl, _⟩ | ⟨a, len, cap, elems, rest, m', _, rfl, _, _, hlc, _, hel, hsome, _, _⟩
      ·exact ⟨[.lst re.length []], by simp [FitL, fD], DVL.cons (by unfold DV; exact ⟨none, 0, rfl, Nat.le_refl _, fun _ => rfl, .inl rfl⟩) DVL.nil, fun u hu => by simp at hu; subst hu; rfl⟩
      ·have each : ∀ i, i < len -> ∃ cs, w.cells? base (a.add (i * re.length)) re.length = some cs /\ ME w re cs := fun i hi => by
        have h1 := hsome i hi
        rw [List.getElem?_eq_getElem (by omega)] at h1
        obtain ⟨cs, h2, h3⟩ := Option.bind_eq_some_iff.1 h1
        rw [hz]
        exact ⟨cs, h2, mJ n hre h3⟩
       obtain ⟨es, hes, hq⟩ := pA (Q := fun i ds => ∃ cs, w.cells? base (a.add (i * re.length)) re.length = some cs /\ FitL re ds /\ DVL (γH w) w ds cs /\ ∀ u ∈ cs, u.oneCell' = true) len fun i hi => by
        obtain ⟨cs, h1, ds, h2, h3, h4⟩ := each i hi
        exact ⟨ds, cs, h1, h2, h3, h4⟩
       subst hes
       have fit : FitL [CK.sl re] [.lst re.length es] := by
        simp only [FitL, fD]
        refine ⟨_, _, rfl, ⟨es, rfl, fun r hr => ?_⟩, rfl⟩
        obtain ⟨i, hi, rfl⟩ := List.getElem_of_mem hr
        obtain ⟨_, _, h, _⟩ := hq i _ (List.getElem?_eq_getElem hi)
        exact h
       refine ⟨_, fit, DVL.cons ?_ DVL.nil, fun u hu => by simp at hu; subst hu; rfl⟩
       by_cases h0 : es.length = 0
       ·unfold DV
        exact ⟨some a, cap, rfl, hlc, (fun h => by cases h), .inl (List.length_eq_zero_iff.1 h0)⟩
       obtain ⟨b, off, spot⟩ := a
       have hsp : spot = none := by
        obtain ⟨cs, h1, _⟩ := each 0 (by omega)
        obtain ⟨h2, h3⟩ := tH h1
        have h4 := h3 0 hpos
        rw [List.getElem?_eq_getElem (by omega)] at h4
        simpa [Addr.add] using World.cell?_spot h4
       subst hsp
       have cel : ∀ i ds, es[i]? = some ds -> ∃ cs, cs.length = re.length /\ (∀ j, j < re.length -> w.cell? ⟨b, off + i * re.length + j, none⟩ = cs[j]?) /\ FitL re ds /\ DVL (γH w) w ds cs /\ ∀ u ∈ cs, u.oneCell' = true := fun i ds hi => by
        obtain ⟨cs, h1, h2, h3, h4⟩ := hq i ds hi
        obtain ⟨h5, h6⟩ := tH h1
        refine ⟨cs, h5, fun j hj => ?_, h2, h3, h4⟩
        rw [<- h6 j hj, Go.WideShapes.add_plain, Go.WideShapes.add_plain]
       obtain ⟨vs, ee, fr, hb⟩ : ∃ vs e fr, w.heap[b]? = some (.cells vs e fr) := by
        obtain ⟨cs, h1, h2, _⟩ := cel 0 es[0] (List.getElem?_eq_getElem (by omega))
        have h3 := h2 0 hpos
        rw [List.getElem?_eq_getElem (by omega)] at h3
        obtain ⟨vs, e, fr, h4, _⟩ := zA h3
        exact ⟨vs, e, fr, h4⟩
       have at' : ∀ i ds, es[i]? = some ds -> ∃ cs, cs.length = re.length /\ (∀ j, j < re.length -> vs[off + i * re.length + j]? = cs[j]?) /\ FitL re ds /\ DVL (γH w) w ds cs /\ ∀ u ∈ cs, u.oneCell' = true := fun i ds hi => by
        obtain ⟨cs, h1, h2, h3⟩ := cel i ds hi
        exact ⟨cs, h1, fun j hj => by rw [<- FH hb]; exact h2 j hj, h3⟩
       unfold DV
       refine ⟨some ⟨b, off, none⟩, cap, rfl, hlc, (fun h => by cases h), .inr ⟨b, off, vs, ee, fr, ⟨vs, ee, fr, hb⟩, hb, rfl, ?_, Cp fun i r hi => ?_, fun u hu => ?_⟩⟩
       ·obtain ⟨l', hl'⟩ : ∃ l', es.length = l' + 1 := ⟨es.length - 1, by omega⟩
        obtain ⟨cs, h1, h2, _⟩ := at' l' _ (List.getElem?_eq_getElem (by omega))
        have h3 := h2 (re.length - 1) (by omega)
        rw [List.getElem?_eq_getElem (by omega)] at h3
        have h4 := (Array.getElem?_eq_some_iff.1 h3).1
        rw [hl', Nat.succ_mul]
        omega
       ·obtain ⟨cs, h1, h2, h3, h4, _⟩ := at' i r hi
        refine ⟨h3.length, ?_⟩
        have e : ((vs.toList.drop off).drop (i * re.length)).take re.length = cs := by
         apply List.ext_getElem?
         intro j
         by_cases hj : j < re.length
         ·rw [List.getElem?_take_of_lt hj, List.getElem?_drop, List.getElem?_drop, <- h2 j hj, Array.getElem?_toList, Nat.add_assoc]
         ·rw [List.getElem?_eq_none (by simp; omega), List.getElem?_eq_none (by omega)]
        rw [e]; exact h4
       ·obtain ⟨k, hk, rfl⟩ := List.getElem_of_mem hu
        rw [List.length_take] at hk
        have hkz : k / re.length < es.length := Nat.div_lt_of_lt_mul (by rw [Nat.mul_comm]; omega)
        obtain ⟨cs, h1, h2, _, _, h5⟩ := at' (k / re.length) _ (List.getElem?_eq_getElem hkz)
        have hm := Nat.mod_lt k hpos
        have h3 := h2 (k % re.length) hm
        have e : off + k / re.length * re.length + k % re.length = off + k := by
         have := Nat.div_add_mod k re.length
         rw [Nat.mul_comm] at this
         omega
        rw [e, List.getElem?_eq_getElem (by omega)] at h3
        have h6 : vs.toList[off + k]? = some cs[k % re.length] := by rw [Array.getElem?_toList]; exact h3
        have h7 : ((vs.toList.drop off).take (es.length * re.length))[k]? = some cs[k % re.length] := by
         rw [List.getElem?_take_of_lt (by omega), List.getElem?_drop]; exact h6
        rw [List.getElem?_eq_getElem (by rw [List.length_take]; exact hk)] at h7
        rw [Option.some.inj h7]
        exact h5 _ (List.getElem_mem _)
     ·cases h
    ·cases h
   ·rename_i fs ht
    split at h
    ·rename_i r1 hr1
     split at h
     ·rename_i hl
      cases h
      obtain ⟨xs, m', _, _, hcl, hxl, hx⟩ := DataW.trod_struct ht k
      refine AD hr1 (fun f hm r' hr' => ?_) (by omega)
      obtain ⟨i, hi, rfl⟩ := List.getElem_of_mem hm
      have h1 := hx i _ (by rw [Array.getElem?_eq_getElem (by simpa using hi)])
      rw [List.getElem?_eq_getElem (by simp at hi; omega)] at h1
      exact mJ n hr' h1
     ·cases h
    ·cases h
   ·cases h
end
open Go.RowKit
theorem PureF.calls {P : Program} {f : Nat} {ds : List D} (h : PureF P f ds (.b true)) {args : Array Value} {w : World} (ha : DVL (γH w) w ds args.toList) (hL : LRok w := by intro g r h; cases h) : Calls P f args w fun e w' => e = .returned (.bool true) /\ Grown w w' /\ Below w.heap.size w w' := by
 obtain ⟨_, c2⟩ := (h .e .h none).ok (fun _ => True) (fun _ _ => trivial) (γH w) args w (Pe hL) ha (fun id c _ hc => by rw [T.get_e] at hc; cases hc) (fun _ _ _ => rfl)
 refine (callsIn_wide (n := 0)).1 (c2 none 0 _ fun γ' w' u _ F hu _ _ => ?_)
 obtain rfl := pL hu
 exact ⟨rfl, F.grown (fun _ => rfl), ⟨F.os, F.tape, F.output, F.size, fun k hk => F.blk k hk fun id st _ hst => absurd hst (Nat.not_lt_zero st)⟩⟩
theorem HO {n : Int} (h : (Lit.int .i64 n).wf = true) : AU .i64 n = true := by
 obtain ⟨h1, h2⟩ := Go.bounds_i64 h
 cases n with
 | ofNat m =>
   have h2 : (m : Int) <= 9223372036854775807 := h2
   exact Nat.ble_eq_true_of_le (by simp only [fF]; omega)
 | negSucc m =>
   show (IntKind.signed .i64 && Nat.ble m (fF .i64)) = true
   rw [show IntKind.signed .i64 = true from rfl, Bool.true_and]
   exact Nat.ble_eq_true_of_le (by simp only [fF]; omega)
theorem vU : ∀ {es : List (List D)}, (∀ x ∈ es, FitL [.i .i64] x) -> ∃ l, es = ints l /\ ∀ n ∈ l, AU .i64 n = true
 | [], _ => ⟨[], rfl, fun n h => by cases h⟩
 | x :: es, h => by
   obtain ⟨l, rfl, hl⟩ := vU (es := es) fun y hy => h y (by simp [hy])
   have h1 := h x (by simp)
   simp only [FitL, fD] at h1
   obtain ⟨d, ds, rfl, ⟨n, rfl, hn⟩, rfl⟩ := h1
   refine ⟨n :: l, rfl, fun m hm => ?_⟩
   rcases List.mem_cons.1 hm with rfl | hm
   ·exact HO hn
   ·exact hl m hm
theorem BD {H : Type} {enc : TypeId × Value -> H} {P : Program} {w : World} {r : Reach} {b0 : Nat} {t e : TypeId} {v : Value} {d : DataW H} {ps : List MemPlace} {spare : Nat -> Bool} {held : Bool} {n : Nat} {row : List CK} (ht : P.underlying t = some (.slice e)) (hv : Value.okWide P w r b0 t v) (hr : nY P n t = some row) (h : DataW.Trod enc P w 0 spare held t v d ps) : ∃ ds, FitL row ds /\ DVL (γH w) w ds [v] := by
 obtain ⟨a, len, cap, rfl⟩ := Go.WideShapes.okWide_slice ht hv
 obtain ⟨m, h⟩ := h
 obtain ⟨ds, h1, h2, _⟩ := mJ n hr h
 exact ⟨ds, h1, h2⟩
theorem wB {H : Type} {enc : TypeId × Value -> H} {P : Program} {w : World} {r : Reach} {b0 : Nat} {t : TypeId} {fs : Array Field} {v : Value} {d : DataW H} {ps : List MemPlace} {spare : Nat -> Bool} {held : Bool} {n : Nat} {row : List CK} (ht : P.underlying t = some (.struct fs)) (hv : Value.okWide P w r b0 t v) (hr : nY P n t = some row) (h : DataW.Trod enc P w 0 spare held t v d ps) : ∃ ds, FitL row ds /\ DV (γH w) w (.ag ds) v := by
 have : ∃ cs, v = .agg cs := by
  simp only [Value.okWide, ht] at hv
  obtain ⟨cs, rfl, _⟩ := hv
  exact ⟨cs, rfl⟩
 obtain ⟨cs, rfl⟩ := this
 obtain ⟨m, h⟩ := h
 obtain ⟨ds, h1, h2, h3⟩ := mJ n hr h
 refine ⟨ds, h1, ?_⟩
 unfold DV
 exact ⟨cs, rfl, h2, h3⟩
theorem DY {H : Type} {enc : TypeId × Value -> H} {P : Program} {w : World} {r : Reach} {b0 : Nat} {t : TypeId} {k : IntKind} {v : Value} {d : DataW H} {ps : List MemPlace} {spare : Nat -> Bool} {held : Bool} (ht : P.underlying t = some (.int k)) (hv : Value.okWide P w r b0 t v) (h : DataW.Trod enc P w 0 spare held t v d ps) : ∃ n, v = .int k n /\ (Lit.int k n).wf = true := by
 simp only [Value.okWide, ht, Cell.okWide] at hv
 obtain ⟨m, h⟩ := h
 obtain ⟨n, hc, _, hw⟩ := DataW.trod_int ht h
 cases v <;> simp_all [Value.cells, Cell.ok]
open Go.RowKit Go.ChangeShapes
def FitP : List (Bool × List CK) -> List D -> Prop
 | [], ds => ds = []
 | (true, r) :: ps, ds => ∃ es ds', ds = .ag es :: ds' /\ FitL r es /\ FitP ps ds'
 | (false, r) :: ps, ds => ∃ d ds', ds = d :: ds' /\ FitL r [d] /\ FitP ps ds'
def Ff (P : Program) (n : Nat) (t : TypeId) : Option (Bool × List CK) := match P.underlying t with
 | some (.struct _) => match nY P n t with
   | some r => some (true, r)
   | none => none
 | some (.slice _) => match nY P n t with
   | some r => some (false, r)
   | none => none
 | some (.int _) => match nY P n t with
   | some r => some (false, r)
   | none => none
 | some .bool => match nY P n t with
   | some r => some (false, r)
   | none => none
 | _ => none
def Ak (P : Program) (n : Nat) : List TypeId -> Option (List (Bool × List CK))
 | [] => some []
 | t :: ts => match Ff P n t, Ak P n ts with
   | some p, some ps => some (p :: ps)
   | _, _ => none
section
variable {H : Type} {enc : TypeId × Value -> H} {P : Program} {w : World} {r : Reach} {b0 : Nat} {spare : Nat -> Bool} {held : Bool} {n : Nat}
theorem BF {t : TypeId} {v : Value} {d : DataW H} {ps : List MemPlace} (ht : P.underlying t = some .bool) (hv : Value.okWide P w r b0 t v) (h : DataW.Trod enc P w 0 spare held t v d ps) : ∃ b, v = .bool b := by
 simp only [Value.okWide, ht, Cell.okWide] at hv
 obtain ⟨m, h⟩ := h
 obtain ⟨b, hc, _⟩ := DataW.trod_bool ht h
 cases v <;> simp_all [Value.cells, Cell.ok]
theorem EH {t : TypeId} {v : Value} {d : DataW H} {ps : List MemPlace} {par : Bool × List CK} (hp : Ff P n t = some par) (hv : Value.okWide P w r b0 t v) (h : DataW.Trod enc P w 0 spare held t v d ps) :
 ∃ e : D, DV (γH w) w e v /\ ∀ (qs : List (Bool × List CK)) (es : List D), FitP qs es -> FitP (par :: qs) (e :: es) := by
 unfold Ff at hp
 cases ht : P.underlying t with
 | none => rw [ht] at hp; cases hp
 | some u =>
   rw [ht] at hp
   cases hr : nY P n t with
   | none => cases u <;> simp only [hr] at hp <;> cases hp
   | some row =>
     cases u <;> simp only [hr] at hp <;> first | cases hp; done | skip
     case bool =>
      cases hp
      obtain ⟨b, rfl⟩ := BF ht hv h
      have hrow : row = [.b] := by
       cases n with
       | zero => cases hr
       | succ n => simp only [nY, ht, Option.some.injEq] at hr; exact hr.symm
      subst hrow
      exact ⟨.b b, dD _, fun qs es hq => by unfold FitP; exact ⟨_, _, rfl, by simp [FitL, fD], hq⟩⟩
     case int k =>
      cases hp
      obtain ⟨m, rfl, hm⟩ := DY ht hv h
      have hrow : row = [.i k] := by
       cases n with
       | zero => cases hr
       | succ n => simp only [nY, ht, Option.some.injEq] at hr; exact hr.symm
      subst hrow
      exact ⟨.i k m, DV_of_i _ _, fun qs es hq => by unfold FitP; exact ⟨_, _, rfl, by simp [FitL, fD, hm], hq⟩⟩
     case slice e =>
      cases hp
      obtain ⟨ds, h1, h2⟩ := BD ht hv hr h
      cases ds with
      | nil => unfold DVL at h2; cases h2
      | cons d ds =>
        unfold DVL at h2
        obtain ⟨v', r', h3, h4, h5⟩ := h2
        cases h3
        cases ds with
        | nil => exact ⟨d, h4, fun qs es hq => by unfold FitP; exact ⟨_, _, rfl, h1, hq⟩⟩
        | cons d' ds =>
          unfold DVL at h5
          obtain ⟨_, _, h6, _⟩ := h5
          cases h6
     case struct fs =>
      cases hp
      obtain ⟨ds, h1, h2⟩ := wB ht hv hr h
      exact ⟨.ag ds, h2, fun qs es hq => by unfold FitP; exact ⟨_, _, rfl, h1, hq⟩⟩
theorem open_all : ∀ {ts : List TypeId} {vs : List Value} {ds : List (DataW H)} {ps : List MemPlace} {pars : List (Bool × List CK)}, Ak P n ts = some pars -> DataW.TrodAll enc P w 0 spare held ts vs ds ps -> (∀ (j : Nat) t v, ts[j]? = some t -> vs[j]? = some v -> Value.okWide P w r b0 t v) -> ∃ es, FitP pars es /\ DVL (γH w) w es vs
 | [], vs, ds, ps, pars, hp, h, hv => by
   obtain ⟨rfl, rfl, rfl⟩ := trodAll_nil h
   cases hp
   exact ⟨[], by simp [FitP], DVL.nil⟩
 | t :: ts, vs, ds, ps, pars, hp, h, hv => by
   obtain ⟨v, vs', d, ds', p, q, rfl, rfl, rfl, h1, h2⟩ := trodAll_cons h
   unfold Ak at hp
   cases ha : Ff P n t with
   | none => rw [ha] at hp; cases hp
   | some a =>
     cases hb : Ak P n ts with
     | none => rw [ha, hb] at hp; cases hp
     | some b =>
       rw [ha, hb] at hp
       cases hp
       obtain ⟨e, k1, k2⟩ := EH ha (hv 0 t v rfl rfl) h1
       obtain ⟨es, k3, k4⟩ := open_all hb h2 fun j t v x y => hv (j + 1) t v x y
       exact ⟨e :: es, k2 _ _ k3, DVL.cons k1 k4⟩
theorem stays_all (hl : laidOutB P = true) {W W' : World} {sp' : Nat -> Bool} : ∀ {ts : List TypeId} {vs : List Value} {ds : List (DataW H)} {ps : List MemPlace}, (∀ t ∈ ts, P.readableRec t = true /\ t < P.types.size) -> DataW.TrodAll enc P W 0 (fun _ => true) true ts vs ds ps -> (∀ p ∈ ps, W.sameAt W' p) -> (∀ p ∈ ps, sp' p.block = true) -> DataW.TrodAll enc P W' 0 sp' true ts vs ds ps
 | [], vs, ds, ps, _, h, _, _ => by
   obtain ⟨rfl, rfl, rfl⟩ := trodAll_nil h
   exact trodAll_mk0
 | t :: ts, vs, ds, ps, ht, h, h1, h2 => by
   obtain ⟨v, vs', d, ds', p, q, rfl, rfl, rfl, k1, k2⟩ := trodAll_cons h
   exact ⟨p, q, Go.WideElems.Trod_stays hl (ht t (by simp)).1 (ht t (by simp)).2 k1 (fun x hx => h1 x (List.mem_append_left _ hx)) (fun x hx => h2 x (List.mem_append_left _ hx)),
    stays_all hl (fun t h => ht t (by simp [h])) k2 (fun x hx => h1 x (List.mem_append_right _ hx)) (fun x hx => h2 x (List.mem_append_right _ hx)), rfl⟩
end
section
variable {ps : List (Bool × List CK)} {ds : List D}
theorem FitP.i {k : IntKind} (h : FitP ((false, [.i k]) :: ps) ds) : ∃ n ds', ds = .i k n :: ds' /\ (Lit.int k n).wf = true /\ FitP ps ds' := by
 unfold FitP at h
 obtain ⟨d, ds', rfl, h1, h2⟩ := h
 simp only [FitL, fD] at h1
 obtain ⟨d, ds, e, ⟨n, rfl, hw⟩, rfl⟩ := h1
 cases e
 exact ⟨n, ds', rfl, hw, h2⟩
theorem FitP.b (h : FitP ((false, [.b]) :: ps) ds) : ∃ t ds', ds = .b t :: ds' /\ FitP ps ds' := by
 unfold FitP at h
 obtain ⟨d, ds', rfl, h1, h2⟩ := h
 simp only [FitL, fD] at h1
 obtain ⟨d, ds, e, ⟨n, rfl⟩, rfl⟩ := h1
 cases e
 exact ⟨n, ds', rfl, h2⟩
theorem FitP.list (h : FitP ((false, [.sl [.i .i64]]) :: ps) ds) : ∃ t ds', ds = .lst 1 (ints t) :: ds' /\ (∀ n ∈ t, AU .i64 n = true) /\ FitP ps ds' := by
 unfold FitP at h
 obtain ⟨d, ds', rfl, h1, h2⟩ := h
 simp only [FitL, fD] at h1
 obtain ⟨d, ds, e, ⟨es, rfl, h1⟩, rfl⟩ := h1
 cases e
 obtain ⟨l, rfl, hl⟩ := vU fun x hx => by have := h1 x hx; simpa only [FitL, fD] using this
 exact ⟨l, ds', rfl, hl, h2⟩
def JN (k : IntKind) (l : List Int) : List (List D) := l.map fun n => [D.i k n]
theorem FitP.no (h : FitP [] ds) : ds = [] := by unfold FitP at h; exact h
end
theorem len1 {α : Type} {l : List α} (h : l.length = 1) : ∃ a, l = [a] := by
 match l, h with
 | [a], _ => exact ⟨a, rfl⟩
theorem trod_len {H : Type} {enc : TypeId × Value -> H} {P : Program} {w : World} {base : Nat} {spare : Nat -> Bool} {held : Bool} : ∀ {ts : List TypeId} {vs : List Value} {ds : List (DataW H)} {ps : List MemPlace}, DataW.TrodAll enc P w base spare held ts vs ds ps -> ds.length = ts.length
 | [], vs, ds, ps, h => by obtain ⟨rfl, rfl, rfl⟩ := Go.ChangeShapes.trodAll_nil h; rfl
 | t :: ts, vs, ds, ps, h => by
   obtain ⟨v, vs', d, ds', p, q, rfl, rfl, rfl, h1, h2⟩ := Go.ChangeShapes.trodAll_cons h
   rw [List.length_cons, List.length_cons, trod_len h2]
end Go.Ev
namespace Go.Ev
def Iy (P : Program) : List TypeId -> Bool
 | [] => true
 | t :: ts => P.readableRec t && decide (t < P.types.size) && Iy P ts
theorem of_allT {P : Program} : ∀ {ts : List TypeId}, Iy P ts = true -> ∀ t ∈ ts, P.readableRec t = true /\ t < P.types.size
 | [], _, t, h => by cases h
 | a :: ts, h, t, ht => by
   unfold Iy at h
   rw [Bool.and_eq_true, Bool.and_eq_true, decide_eq_true_iff] at h
   rcases List.mem_cons.1 ht with rfl | ht
   ·exact h.1
   ·exact of_allT h.2 t ht
open Go.RowKit (Below Grown)
structure ShrB (B : Pos -> Prop) (z z' : X) : Prop where
 sl : ∀ s d', z'.sl.get s = some d' -> ∃ d, z.sl.get s = some d /\ Fz B z.ob d d'
 ob : ∀ id c', z'.ob.get id = some c' -> B id /\ ∃ c, z.ob.get id = some c /\ ShC B z.ob c c'
 l : z.lg = none
 l' : z'.lg = none
section
variable {P : Program} {nt : Nat}
open Classical in
theorem XOk.shrinkB {c : Code} {x Z Z' : X} {e : Ex} {B : Pos -> Prop} (h : XOk P nt c x e Z) (S : ShrB B Z Z') (hx : ∀ id : Pos, id.nat < x.nx.nat -> B id) (hz : ∀ id : Pos, B id -> id.nat < Z'.nx.nat) (hxn : x.nx.nat <= Z'.nx.nat) : XOk P nt c x e Z' := by
 have hl : x.lg = none := h.lg.none.2 S.l
 refine ⟨by rw [hl, S.l']; exact LgLe.refl _, hxn, fun id hn => ?_, fun so hs ro γ a w hn g R n Q hQ => ?_⟩
 ·rw [S.l'] at hn; exact absurd trivial hn
 have hall : ∀ id, so id := fun id => hs id (by rw [S.l']; trivial)
 refine h.ok so (fun id _ => hall id) ro γ a w hn g R n Q fun γ1 a1 w1 cst rep => ?_
 have hzero : ∀ id, ¬ B id -> γ.cur id = 0 := fun id hid => R.nx id (hall id) (Nat.not_lt.1 fun h => hid (hx id h))
 let γ2 : Gh := ⟨fun id => if B id then γ1.cur id else 0, γ1.β, fun b => γ1.im b \/ ((∃ id st, ¬ B id /\ st < γ1.cur id /\ (γ1.β id st).1 = b) /\ ∃ vs e fr, w1.heap[b]? = some (.cells vs e fr))⟩
 have c2 : ∀ id, B id -> γ2.cur id = γ1.cur id := fun id hid => by show (if _ then _ else _) = _; rw [if_pos hid]
 have c2' : ∀ id, ¬ B id -> γ2.cur id = 0 := fun id hid => by show (if _ then _ else _) = _; rw [if_neg hid]
 have lt2 : ∀ id st, st < γ2.cur id -> B id /\ st < γ1.cur id := fun id st hst => by
  by_cases hid : B id
  ·rw [c2 id hid] at hst; exact ⟨hid, hst⟩
  ·rw [c2' id hid] at hst; exact absurd hst (Nat.not_lt_zero _)
 have hob1 : ∀ id c, Z.ob.get id = some c -> HoldsO P γ1 w1 id c := fun id c hc => rep.ob id c (hall id) hc
 have fz : ∀ d d', Fz B Z.ob d d' -> ∀ v, DV γ1 w1 d v -> DV γ2 w1 d' v := fun d d' hf =>
  Fz.ok (γ := γ1) (γ' := γ2) (fun b hb => .inl hb) hob1 (fun id hid => ⟨c2 id hid, rfl⟩) (fun id st vs e fr hid hst hc => .inr ⟨⟨id, st, hid, hst, rfl⟩, vs, e, fr, hc⟩) hf
 have F := cst.fr
 have fresh : ∀ id st, ¬ B id -> st < γ1.cur id -> w.heap.size <= (γ1.β id st).1 := fun id st hid hst => by
  rcases F.new id st (by rw [hzero id hid]; exact Nat.zero_le _) hst with h | ⟨fZ, h, _⟩
  ·exact h
  ·rw [hzero id hid] at h; exact absurd h (Nat.not_lt_zero _)
 have G2 : G ro γ2 a1 w1 := by
  refine ⟨fun id st hst => cst.g.ob id st (lt2 id st hst).2, fun id st id' st' hst hst' he => cst.g.inj id st id' st' (lt2 id st hst).2 (lt2 id' st' hst').2 he, ?_, cst.g.rd, fun b hb => ?_, cst.g.gl.im fun _ h => .inl h⟩
  ·obtain ⟨ms, d1, d2, d3⟩ := cst.g.df
   exact ⟨ms, d1, d2, fun r hr => ⟨(d3 r hr).1, fun id st hst => (d3 r hr).2 id st (lt2 id st hst).2⟩⟩
  ·rcases hb with hb | ⟨⟨id', st', h1, h2, h3⟩, h4⟩
   ·exact ⟨(cst.g.im b hb).1, fun id st hst => (cst.g.im b hb).2 id st (lt2 id st hst).2⟩
   ·refine ⟨h4, fun id st hst e => ?_⟩
    obtain ⟨k1, k2⟩ := lt2 id st hst
    have e : (γ1.β id st).1 = b := e
    obtain ⟨rfl, _⟩ := cst.g.inj id st id' st' k2 h2 (e.trans h3.symm)
    exact h1 k1
 have hw : ∀ {id : Pos}, wrtn Z'.lg id := fun {id} => by rw [S.l']; trivial
 have hwZ : ∀ {id : Pos}, wrtn Z.lg id := fun {id} => by rw [S.l]; trivial
 refine hQ γ2 a1 w1 ⟨G2, ⟨⟨fun id => ?_, fun id st hst => F.up.β id st hst, F.up.sh, fun b hb => ⟨.inl (F.up.im b hb).1, (F.up.im b hb).2⟩⟩, fun id hn => absurd hw hn, fun b hb hn => F.blk b hb fun id st _ hst => hn id st hw hst, fun id st h1 h2 => F.new id st h1 (lt2 id st h2).2, fun b hb hlt => ?_, F.lp, F.size, F.os, F.tape, F.output, F.fz⟩, cst.sz, cst.dn⟩
  ⟨fun s d' _ hd => ?_, fun id c' _ hc => ?_, fun id _ hle => c2' id (fun hb => by have := hz id hb; omega), cst.g.gl.im fun _ h => .inl h⟩
 ·by_cases hid : B id
  ·rw [c2 id hid]; exact F.up.cur id
  ·rw [hzero id hid]; exact Nat.zero_le _
 ·rcases hb with hb | ⟨⟨id', st', h1, h2, h3⟩, h4⟩
  ·exact F.imn b hb hlt
  ·have := fresh id' st' h1 h2
   omega
 ·obtain ⟨d, h1, h2⟩ := S.sl s d' hd
  obtain ⟨h3, h4⟩ := rep.sl s d trivial h1
  exact ⟨h3, fz d d' h2 _ h4⟩
 ·obtain ⟨hid, c, h1, h2⟩ := S.ob id c' hc
  have H := hob1 id c h1
  cases h2 with
  | cells hcc =>
    obtain ⟨q0, q1, q2⟩ := H
    refine ⟨q0, (c2 id hid).trans q1, fun st hst => ?_⟩
    obtain ⟨vs, e, fr, q3, q4, q5⟩ := q2 st hst
    refine ⟨vs, e, fr, q3, q4, fun p c' hp hh hd => ?_⟩
    obtain ⟨c, k1, k2, k3⟩ := hcc p c' hp
    obtain ⟨u, k4, k5, k6⟩ := q5 p c k1 (k2 st hh) hd
    exact ⟨u, k4, fz _ _ k3 u k5, k6⟩
  | map hl hm =>
    obtain ⟨q1, en, cl, q2, q3, q4⟩ := H
    refine ⟨(c2 id hid).trans q1, en, cl, q2, by rw [<- hl]; exact q3, fun i e' f he' hf => ?_⟩
    rename_i es es'
    have hi : i < es.length := by rw [hl]; exact (List.getElem?_eq_some_iff.1 he').1
    obtain ⟨k1, k2⟩ := hm i _ e' (List.getElem?_eq_getElem hi) he'
    obtain ⟨k3, k4⟩ := q4 i _ f (List.getElem?_eq_getElem hi) hf
    exact ⟨fz _ _ k1 _ k3, fz _ _ k2 _ k4⟩
  | lp hsl =>
    obtain ⟨q1, l, q2, q3, q4, q5, q6⟩ := H
    refine ⟨(c2 id hid).trans q1, l, q2, q3, q4, fun s d' hs => ?_, q6⟩
    obtain ⟨d, k1, k2⟩ := hsl s d' hs
    exact ⟨(q5 s d k1).1, fz _ _ k2 _ (q5 s d k1).2⟩
  | hole => exact (c2 id hid).trans H
structure AgainB {σ : Type} (S : σ -> X) (I : σ -> Prop) (μ : σ -> Nat) (s : σ) (z : X) : Prop where
 ok : ∃ s' B, μ s' < μ s /\ I s' /\ (S s).nx.nat <= (S s').nx.nat /\ (∀ id : Pos, id.nat < (S s).nx.nat -> B id) /\ (∀ id : Pos, B id -> id.nat < (S s').nx.nat) /\ ShrB B z (S s')
theorem AgainB.to {σ : Type} {S : σ -> X} {I : σ -> Prop} {μ : σ -> Nat} {s : σ} {z : X} (s' : σ) (B : Pos -> Prop) (h : μ s' < μ s) (i : I s') (n : (S s).nx.nat <= (S s').nx.nat) (b1 : ∀ id : Pos, id.nat < (S s).nx.nat -> B id) (b2 : ∀ id : Pos, B id -> id.nat < (S s').nx.nat) (l : ShrB B z (S s')) : AgainB S I μ s z := ⟨s', B, h, i, n, b1, b2, l⟩
theorem Shr.toB {z z' : X} (h : Shr z z') : ShrB (fun id => id.nat < z'.nx.nat) z z' := ⟨h.sl, h.ob, h.l, h.l'⟩
theorem AgainB.sh {σ : Type} {S : σ -> X} {I : σ -> Prop} {μ : σ -> Nat} {s : σ} {z : X} (s' : σ) (h : μ s' < μ s) (i : I s') (n : (S s).nx.nat <= (S s').nx.nat) (l : Shr z (S s')) : AgainB S I μ s z :=
 ⟨s', _, h, i, n, fun _ h => Nat.lt_of_lt_of_le h n, fun _ h => h, l.toB⟩
def xU {σ : Type} (S : σ -> X) (I : σ -> Prop) (μ : σ -> Nat) (s : σ) (K : Ex -> X -> Prop) (e : Ex) (z : X) : Prop :=
 match e with
 | .normal => AgainB S I μ s z
 | .ret => K .ret z
 | .exit i => K (.exit i) z
theorem Rn.loopB {a : RC} {x : X} {K : Ex -> X -> Prop} {σ : Type} (S : σ -> X) (I : σ -> Prop) (μ : σ -> Nat) (s0 : σ) (h0 : X.le (S s0) x) (i0 : I s0)
 (hb : ∀ s, I s -> Rn P nt a (S s) (xU S I μ s K)) : Rn P nt (.loop a) x K := Rn.of_bare fun c hc hs => by
 refine other hc hs (fun e => by cases e) (fun _ e => by cases e) (fun j _ e => by cases e) (fun i ops _ e => by cases e) (fun i ops _ e => by cases e) (fun _ _ _ e => by cases e) (fun _ _ _ _ _ _ e => by cases e) (fun _ _ _ e => by cases e) (fun a' e e' => ?_) (fun _ _ _ _ _ _ _ _ _ e => by cases e) (fun e => by cases e)
 cases e'
 subst e
 have key : ∀ n s, μ s = n -> I s -> ∃ e Z, XRounds P nt a' (S s) e Z /\ K e Z := by
  intro n
  induction n using Nat.strongRecOn with
  | _ n ih =>
    intro s hs hi
    obtain ⟨e, z, h1, h2⟩ := (hb s hi).ok a' rfl
    cases e with
    | normal =>
      obtain ⟨s', B, h3, h4, h5, h6, h7, h8⟩ := AgainB.ok h2
      obtain ⟨e, Z, q1, q2⟩ := ih (μ s') (by omega) s' rfl h4
      exact ⟨e, Z, .more (h1.shrinkB h8 h6 h7 h5) q1, q2⟩
    | ret => exact ⟨.ret, z, .last h1 (fun e => by cases e), h2⟩
    | exit i => exact ⟨.exit i, z, .last h1 (fun e => by cases e), h2⟩
 obtain ⟨e, Z, h1, h2⟩ := key _ s0 rfl i0
 exact ⟨e, Z, (XOk.loop h1).le h0, h2⟩
end
end Go.Ev
end
