import Derived.Test.YtjgbfnciedkafaaEvUJb
set_option linter.all false
namespace Go.Ev
open Go.Proofs
set_option maxRecDepth 100000
theorem WSt.slaH {sl : T D} {ob : T C} {nx : Pos} {K : X → Prop} {lg lg2 : Option (T Bool)} {d id : Pos} {n z st h cur : Nat} {ro : Bool} {x xh : RX} {cs : List Cell} {ds : List D} (hx : opd sl x = some (.pt id 0 st)) (hob : ob.get id = some (.cells ro cs cur)) (hcs : cs = ds.map fun d => Cell.o d st) (hn : ds.length = n * z)
    (hhi : opd sl xh = some (.i .i64 (h : Int))) (h2 : h ≤ n) (h3 : 0 < n) (hz : 0 < z) (hl : (∀ k : Option (T Bool) → Option X, logR lg id k = k lg2)) (k : wOut sl ob nx lg2 d K (.sl id 0 h st z)) : WSt (.sla d n z x none (some xh) none) ⟨sl, ob, nx, lg⟩ K := by
  obtain ⟨k2, k3⟩ := wOut_ok k
  refine ⟨_, ?_, k3⟩
  show s_sla d n z x none (some xh) none sl ob nx lg = _
  unfold s_sla
  rw [hx]
  simp only [hob, bnd, hhi]
  have hhi' : ((h : Nat) : Int) = Int.ofNat h := rfl
  have b1 : Nat.ble 0 h = true := Nat.ble_eq_true_of_le (Nat.zero_le _)
  have b2 : Nat.ble h n = true := Nat.ble_eq_true_of_le h2
  have b3 : Nat.blt 0 n = true := Nat.ble_eq_true_of_le h3
  have b4 : Nat.blt 0 z = true := Nat.ble_eq_true_of_le hz
  subst hcs
  have hlt : n * z - 1 < ds.length := by
    have : 1 * 1 ≤ n * z := Nat.mul_le_mul h3 hz
    omega
  have hc : nthC (ds.map fun d => Cell.o d st) (Nat.pred (Nat.add 0 (Nat.mul n z))) = some (Cell.o (ds[n * z - 1]'hlt) st) := by
    rw [nthC_eq, show Nat.pred (Nat.add 0 (Nat.mul n z)) = n * z - 1 by rw [show Nat.add 0 (Nat.mul n z) = n * z from Nat.zero_add _]; rfl]
    simp [hlt]
  have hk : ∀ {β : Type} (q : D → Option β), cellK st (Cell.o (ds[n * z - 1]'hlt) st) q = q (ds[n * z - 1]'hlt) := fun q => by
    show (bif Nat.ble st st then _ else none) = _
    rw [Nat.ble_eq_true_of_le (Nat.le_refl st)]; rfl
  simp only [b1, b2, b3, b4, Bool.and_self, cond_true, hc, hk, natK_eq, hl]
  rw [show Nat.add 0 (Nat.mul 0 z) = 0 by rw [show Nat.mul 0 z = 0 from Nat.zero_mul z]]
  exact k2
theorem Frz.subz {id : Pos} {z st off n : Nat} {cs : List Cell} {cur : Nat} {ds : List D} {es : List (List D)} {ro : Bool} {ob : T C} (h : ob.get id = some (.cells ro cs cur)) (hc : cs = ds.map fun d => Cell.o d st) (hn : n = es.length) (hz : ∀ r ∈ es, r.length = z) (hd : es.flatten <+: ds.drop off) (hp : PuE es) : Frz ob (.sl id off n st z) (.lst z es) := by
  subst hc
  refine .sl (fun h => h) h hn.symm hz (fun k d hk => ⟨.o d st, ?_, ?_, rfl⟩) (FzE.of hp)
  · obtain ⟨t, ht⟩ := hd
    rw [← List.map_drop, List.getElem?_map, ← ht, List.getElem?_append_left (by
      rcases Nat.lt_or_ge k es.flatten.length with h | h
      · exact h
      · rw [List.getElem?_eq_none h] at hk; cases hk), hk]
    rfl
  · exact Nat.ble_eq_true_of_le (Nat.le_refl _)
def rightB (cs : List Ct) (m : Mo) : Bool := cs.all fun c => !decide (c.a = m.n) || inR m.box c.lo c.hi
theorem j_isRight (n coin box : Int) (ls : List Ln) (cs : List Ct) (m : Mo) (hc : cs.length ≤ 1000) : PureF Try.prog p80.ix [.ag [.i .i64 n, .i .i64 coin, .i .i64 box, .lst 3 (rows lnD ls), .lst 3 (rows ctD cs), .any], .ag (moD m)] (.b (rightB cs m)) := by
  have cA := j_allCt cs p111 [.ag (moD m)] [] (fun c => !decide (c.a = m.n) || inR m.box c.lo c.hi) (by simp [PuL, Pu, moD]) trivial hc (fun c _ => j_agr m c)
  unfold moD at cA ⊢
  refine PureF.run fn79 (by simp) (by simp [PuL, PuE, Pu, pu_ints, pu_ln, pu_ct]) ?_; conv => whnf
  repeat' first | ((first | with_reducible apply WB.tt | with_reducible apply WB.ff | refine Rn.seq ?_ | refine Rn.reg ?_ | refine Rn.drw ?_ | refine Rn.blk ?_ | refine Rn.skip ?_ | refine Rn.ret ?_ | refine Rn.exit ?_ | refine Rn.cond rfl ?_ | refine And.intro (InR.i64 (by omega) (by omega)) ?_ | refine And.intro (show _ ≠ (0 : Int) by omega) ?_ | refine WIx.intsN (by omega) ?_ | refine WIx.rowsN (by omega) ?_ | refine WCall.pure (cA) ?_) <;> conv => whnf)
  exact Fin.b rfl rfl
theorem pu_mo (l : List Mo) : PuE (rows moD l) := pu_rows (fun m => by simp [moD, PuL, Pu]) l
theorem j_allMo (l : List Mo) (f : Pos) (first caps : List D) (p : Mo → Bool) (h1 : PuL first) (h2 : PuL caps) (hl : l.length ≤ 1000) (hf : ∀ m ∈ l, PureF Try.prog f.ix (first ++ ([.ag (moD m)] ++ caps)) (.b (p m))) : PureF Try.prog p79.ix [.lst 14 (rows moD l), .fn f first caps] (.b (l.all p)) := by
  have e1 := rows_length moD l
  refine PureF.run fn78 (by simp) (by simp [PuL, Pu, pu_mo, h1, h2]) ?_; conv => whnf
  repeat' first | ((first | with_reducible apply WB.tt | with_reducible apply WB.ff | refine Rn.seq ?_ | refine Rn.reg ?_ | refine Rn.drw ?_ | refine Rn.blk ?_ | refine Rn.skip ?_ | refine Rn.ret ?_ | refine Rn.exit ?_ | refine Rn.cond rfl ?_ | refine And.intro (InR.i64 (by omega) (by omega)) ?_ | refine And.intro (show _ ≠ (0 : Int) by omega) ?_ | refine WIx.intsN (by omega) ?_ | refine WIx.rowsN (by omega) ?_) <;> conv => whnf)
  refine Rn.loop (fun j : Nat => ⟨(.n (.n (.n (.n .e (some (.lst 14 (rows moD l))) .e) none .e) (some (.fn f first caps)) (.n (.n .e (some (.i .i64 (j : Int))) .e) none .e)) none (.n (.n (.n .e (some (.i .i64 ((rows moD l).length : Int))) .e) none .e) none .e)), .e, .h, none⟩) (fun j => j ≤ l.length ∧ (l.take j).all p = true) (fun j => l.length - j) 0 ?_ ?_ ?_
  · (first | (refine X.le.mk ?_ ?_ (Nat.le_refl _) rfl rfl) | skip) <;> (repeat' first | exact T.le_e _ | refine T.le_some ?_ ?_ ?_ | refine T.le_none ?_ ?_ | rfl)
  · exact ⟨by omega, by simp⟩
  rintro j ⟨hj, ha⟩
  conv => whnf
  repeat' first | ((first | with_reducible apply WB.tt | with_reducible apply WB.ff | refine Rn.seq ?_ | refine Rn.reg ?_ | refine Rn.drw ?_ | refine Rn.blk ?_ | refine Rn.skip ?_ | refine Rn.ret ?_ | refine Rn.exit ?_ | refine Rn.cond rfl ?_ | refine And.intro (InR.i64 (by omega) (by omega)) ?_ | refine And.intro (show _ ≠ (0 : Int) by omega) ?_ | refine WIx.intsN (by omega) ?_ | refine WIx.rowsN (by omega) ?_) <;> conv => whnf)
  refine WB.dec (fun h => ?_) (fun h => ?_) <;> conv => whnf
  · have hlt : j < l.length := by omega
    repeat' first | ((first | with_reducible apply WB.tt | with_reducible apply WB.ff | refine Rn.seq ?_ | refine Rn.reg ?_ | refine Rn.drw ?_ | refine Rn.blk ?_ | refine Rn.skip ?_ | refine Rn.ret ?_ | refine Rn.exit ?_ | refine Rn.cond rfl ?_ | refine And.intro (InR.i64 (by omega) (by omega)) ?_ | refine And.intro (show _ ≠ (0 : Int) by omega) ?_ | refine WIx.intsN (by omega) ?_ | refine WIx.rowsN (by omega) ?_ | refine WCall.pure (hf _ (getD_mem (d := default) hlt)) ?_) <;> conv => whnf)
    refine WB.mk (fun h => ?_) (fun h => ?_) <;> conv => whnf
    · repeat' first | ((first | with_reducible apply WB.tt | with_reducible apply WB.ff | refine Rn.seq ?_ | refine Rn.reg ?_ | refine Rn.drw ?_ | refine Rn.blk ?_ | refine Rn.skip ?_ | refine Rn.ret ?_ | refine Rn.exit ?_ | refine Rn.cond rfl ?_ | refine And.intro (InR.i64 (by omega) (by omega)) ?_ | refine And.intro (show _ ≠ (0 : Int) by omega) ?_ | refine WIx.intsN (by omega) ?_ | refine WIx.rowsN (by omega) ?_) <;> conv => whnf)
      exact Fin.b rfl (by rw [all_false (d := default) hlt (by simpa using h)])
    · repeat' first | ((first | with_reducible apply WB.tt | with_reducible apply WB.ff | refine Rn.seq ?_ | refine Rn.reg ?_ | refine Rn.drw ?_ | refine Rn.blk ?_ | refine Rn.skip ?_ | refine Rn.ret ?_ | refine Rn.exit ?_ | refine Rn.cond rfl ?_ | refine And.intro (InR.i64 (by omega) (by omega)) ?_ | refine And.intro (show _ ≠ (0 : Int) by omega) ?_ | refine WIx.intsN (by omega) ?_ | refine WIx.rowsN (by omega) ?_) <;> conv => whnf)
      refine Again.to (j + 1) (by omega) ⟨by omega, all_take_succ (d := default) hlt ha (by simpa using h)⟩ (Nat.le_refl _) ?_
      (refine Shr.of ?_ ?_ rfl rfl) <;> (repeat' first | exact Rel.e | refine Rel.some ?_ ?_ ?_ | refine Rel.none ?_ ?_) <;> (try first | (show Fz _ _ _ _; first | exact Fz.pu trivial | (refine Fz.i ?_; first | rfl | omega) | (refine Fz.kpt ?_; (focus (show Pos.nat _ < Pos.nat _; simp [Pos.nat]; done))) | (refine Fz.ksl ?_; (focus (show Pos.nat _ < Pos.nat _; simp [Pos.nat]; done))) | (refine Fz.kmp ?_; (focus (show Pos.nat _ < Pos.nat _; simp [Pos.nat]; done))) | (refine Fz.pu ?_; simp [Cell.d, Pu, PuL, PuE, pu_ints, pu_ln, pu_ct]; done) | (refine Fz.pu ?_; simp only [Cell.d]; assumption)) | (refine RO'.of ?_ (ShC.same ?_); (focus (show Pos.nat _ < Pos.nat _; simp [Pos.nat]; done)); (repeat' first | exact ShC.nl | refine ShC.cn ?_ ?_) <;> first | exact Fz.pu trivial | (refine Fz.i ?_; first | rfl | omega) | (refine Fz.kpt ?_; (focus (show Pos.nat _ < Pos.nat _; simp [Pos.nat]; done))) | (refine Fz.ksl ?_; (focus (show Pos.nat _ < Pos.nat _; simp [Pos.nat]; done))) | (refine Fz.kmp ?_; (focus (show Pos.nat _ < Pos.nat _; simp [Pos.nat]; done))) | (refine Fz.pu ?_; simp [Cell.d, Pu, PuL, PuE, pu_ints, pu_ln, pu_ct]; done) | (refine Fz.pu ?_; simp only [Cell.d]; assumption)))
      all_goals (refine Fz.pu ?_; simp [Pu, h1, h2, pu_mo])
  · repeat' first | ((first | with_reducible apply WB.tt | with_reducible apply WB.ff | refine Rn.seq ?_ | refine Rn.reg ?_ | refine Rn.drw ?_ | refine Rn.blk ?_ | refine Rn.skip ?_ | refine Rn.ret ?_ | refine Rn.exit ?_ | refine Rn.cond rfl ?_ | refine And.intro (InR.i64 (by omega) (by omega)) ?_ | refine And.intro (show _ ≠ (0 : Int) by omega) ?_ | refine WIx.intsN (by omega) ?_ | refine WIx.rowsN (by omega) ?_) <;> conv => whnf)
    exact Fin.b rfl (by rw [all_end (by omega) ha])
def moL (F : Nat → Mo) (k : Nat) : List Mo := (List.range k).map F
theorem mo_prefix (F : Nat → Mo) {k : Nat} (h : k ≤ 9) : (rows moD (moL F k)).flatten <+: mo126 F := by
  have h9 : mo126 F = (rows moD (moL F 9)).flatten := by
    show _ = (List.map moD (List.map F (List.range 9))).flatten
    rw [show List.range 9 = [0, 1, 2, 3, 4, 5, 6, 7, 8] from rfl]
    simp [mo126]
  have ht : moL F k = (moL F 9).take k := by
    unfold moL
    rw [← List.map_take, List.take_range, Nat.min_eq_left h]
  rw [h9, ht]
  unfold rows
  refine ⟨(((moL F 9).drop k).map moD).flatten, ?_⟩
  rw [← List.flatten_append, ← List.map_append, List.take_append_drop]
theorem mo_14 (l : List Mo) : ∀ r ∈ rows moD l, r.length = 14 := fun r hr => by
  obtain ⟨m, _, rfl⟩ := List.mem_map.1 hr
  rfl
def proveB (n coin box : Int) (ls : List Ln) (cs : List Ct) (Tr : List Ln) : Bool := decide (faultT n coin box ls cs = 0) && (followB n ls Tr && (moL (folF box coin n ls Tr) (ls.length + 1)).all (rightB cs))
theorem j_Prove (n coin box : Int) (ls : List Ln) (cs : List Ct) (Tr : List Ln) (hT : Tr.length ≤ 65536) (hw : ∀ r ∈ Tr, lnWf r) : PureF Try.prog p26.ix [.ag [.i .i64 n, .i .i64 coin, .i .i64 box, .lst 3 (rows lnD ls), .lst 3 (rows ctD cs)], .lst 3 (rows lnD Tr)] (.b (proveB n coin box ls cs Tr)) := by
  have e1 := rows_length lnD ls
  have cC := j_CheckBook n coin box ls cs
  refine PureF.run fn25 (by simp) (by simp [PuL, PuE, Pu, pu_ints, pu_ln, pu_ct]) ?_; conv => whnf
  by_cases h0 : faultT n coin box ls cs = 0
  · obtain ⟨f1, f2, f3, f4⟩ := fault_okT h0
    unfold vldT at f3
    simp only [Bool.and_eq_true] at f3
    obtain ⟨v1, v2, v3, v4, v5⟩ := f3
    have hn : 1 ≤ n ∧ n ≤ 4 := inR_iff.1 v1
    have cF := j_follow n coin box ls cs hn (inR_iff.1 v2) (inR_iff.1 v3) f1 v4 Tr hT hw
    have hpB : proveB n coin box ls cs Tr = (followB n ls Tr && (moL (folF box coin n ls Tr) (ls.length + 1)).all (rightB cs)) := by
      unfold proveB
      rw [decide_eq_true h0, Bool.true_and]
    rw [hpB]
    cases hF : followB n ls Tr with
    | false =>
      rw [hF] at cF
      repeat' first | ((first | with_reducible apply WB.tt | with_reducible apply WB.ff | refine Rn.seq ?_ | refine Rn.reg ?_ | refine Rn.drw ?_ | refine Rn.blk ?_ | refine Rn.skip ?_ | refine Rn.ret ?_ | refine Rn.exit ?_ | refine Rn.cond rfl ?_ | refine And.intro (InR.i64 (by omega) (by omega)) ?_ | refine And.intro (show _ ≠ (0 : Int) by omega) ?_ | refine WIx.intsN (by omega) ?_ | refine WIx.rowsN (by omega) ?_ | refine WCall.pure (cC) ?_ | refine WCall.pure (j_begin n coin box ls cs) ?_ | refine WCall.pure (cF) ?_ | with_reducible refine WB.decT (by first | with_reducible rfl | assumption | omega | exact ⟨rfl, rfl⟩) ?_ | with_reducible refine WB.decF (by first | assumption | omega) ?_ | with_reducible refine WB.ndT (by first | with_reducible rfl | assumption | omega | exact ⟨rfl, rfl⟩) ?_ | with_reducible refine WB.ndF (by first | assumption | omega) ?_ | with_reducible refine WB.nt ?_ | with_reducible refine WB.nf ?_ | with_reducible refine WB.dec (fun h => ?_) (fun h => ?_) | with_reducible refine WB.ndec (fun h => ?_) (fun h => ?_) | refine WB.mk (fun h => ?_) (fun h => ?_)) <;> conv => whnf)
      exact Fin.b rfl rfl
    | true =>
      rw [hF] at cF
      generalize folF box coin n ls Tr = F at *
      have cA := j_allMo (moL F (ls.length + 1)) p80 [.ag [.i .i64 n, .i .i64 coin, .i .i64 box, .lst 3 (rows lnD ls), .lst 3 (rows ctD cs), .any]] [] (rightB cs) (by simp [PuL, Pu, pu_ln, pu_ct]) trivial (by simp [moL]; omega) (fun m _ => j_isRight n coin box ls cs m (by omega))
      repeat' first | ((first | with_reducible apply WB.tt | with_reducible apply WB.ff | refine Rn.seq ?_ | refine Rn.reg ?_ | refine Rn.drw ?_ | refine Rn.blk ?_ | refine Rn.skip ?_ | refine Rn.ret ?_ | refine Rn.exit ?_ | refine Rn.cond rfl ?_ | refine And.intro (InR.i64 (by omega) (by omega)) ?_ | refine And.intro (show _ ≠ (0 : Int) by omega) ?_ | refine WIx.intsN (by omega) ?_ | refine WIx.rowsN (by omega) ?_ | refine WCall.pure (cC) ?_ | refine WCall.pure (j_begin n coin box ls cs) ?_ | refine WCall.pure (cF) ?_ | with_reducible refine WB.decT (by first | with_reducible rfl | assumption | omega | exact ⟨rfl, rfl⟩) ?_ | with_reducible refine WB.decF (by first | assumption | omega) ?_ | with_reducible refine WB.ndT (by first | with_reducible rfl | assumption | omega | exact ⟨rfl, rfl⟩) ?_ | with_reducible refine WB.ndF (by first | assumption | omega) ?_ | with_reducible refine WB.nt ?_ | with_reducible refine WB.nf ?_ | with_reducible refine WB.dec (fun h => ?_) (fun h => ?_) | with_reducible refine WB.ndec (fun h => ?_) (fun h => ?_) | refine WB.mk (fun h => ?_) (fun h => ?_)) <;> conv => whnf)
      refine WSt.slaH (ds := mo126 F) (h := ls.length + 1) rfl rfl rfl rfl (by rw [← e1]; rfl) (by omega) (by omega) (by omega) (fun k => rfl) ?_; conv => whnf
      repeat' first | ((first | with_reducible apply WB.tt | with_reducible apply WB.ff | refine Rn.seq ?_ | refine Rn.reg ?_ | refine Rn.drw ?_ | refine Rn.blk ?_ | refine Rn.skip ?_ | refine Rn.ret ?_ | refine Rn.exit ?_ | refine Rn.cond rfl ?_ | refine And.intro (InR.i64 (by omega) (by omega)) ?_ | refine And.intro (show _ ≠ (0 : Int) by omega) ?_ | refine WIx.intsN (by omega) ?_ | refine WIx.rowsN (by omega) ?_ | refine WCall.pure (cC) ?_ | with_reducible refine WB.decT (by first | with_reducible rfl | assumption | omega | exact ⟨rfl, rfl⟩) ?_ | with_reducible refine WB.decF (by first | assumption | omega) ?_ | with_reducible refine WB.ndT (by first | with_reducible rfl | assumption | omega | exact ⟨rfl, rfl⟩) ?_ | with_reducible refine WB.ndF (by first | assumption | omega) ?_ | with_reducible refine WB.nt ?_ | with_reducible refine WB.nf ?_ | with_reducible refine WB.dec (fun h => ?_) (fun h => ?_) | with_reducible refine WB.ndec (fun h => ?_) (fun h => ?_) | refine WB.mk (fun h => ?_) (fun h => ?_)) <;> conv => whnf)
      refine WCall.borrow1 cA (.i .h) (.cells false ((mo126 F).map fun d => Cell.o d 0) 1) (.cons ?_ (.cons ?_ .nil)) trivial rfl rfl ?_
      · exact Frz.subz (ds := mo126 F) rfl rfl (by simp [moL, rows]) (mo_14 _) (by rw [List.drop_zero]; exact mo_prefix F (by omega)) (pu_mo _)
      · exact .pu (by simp [Pu, PuL, pu_ln, pu_ct])
      conv => whnf
      repeat' first | ((first | with_reducible apply WB.tt | with_reducible apply WB.ff | refine Rn.seq ?_ | refine Rn.reg ?_ | refine Rn.drw ?_ | refine Rn.blk ?_ | refine Rn.skip ?_ | refine Rn.ret ?_ | refine Rn.exit ?_ | refine Rn.cond rfl ?_ | refine And.intro (InR.i64 (by omega) (by omega)) ?_ | refine And.intro (show _ ≠ (0 : Int) by omega) ?_ | refine WIx.intsN (by omega) ?_ | refine WIx.rowsN (by omega) ?_ | with_reducible refine WB.decT (by first | with_reducible rfl | assumption | omega | exact ⟨rfl, rfl⟩) ?_ | with_reducible refine WB.decF (by first | assumption | omega) ?_ | with_reducible refine WB.ndT (by first | with_reducible rfl | assumption | omega | exact ⟨rfl, rfl⟩) ?_ | with_reducible refine WB.ndF (by first | assumption | omega) ?_ | with_reducible refine WB.nt ?_ | with_reducible refine WB.nf ?_ | with_reducible refine WB.dec (fun h => ?_) (fun h => ?_) | with_reducible refine WB.ndec (fun h => ?_) (fun h => ?_) | refine WB.mk (fun h => ?_) (fun h => ?_)) <;> conv => whnf)
      exact Fin.b rfl (by rw [Bool.true_and])
  · have hpB : proveB n coin box ls cs Tr = false := by
      unfold proveB
      rw [decide_eq_false h0, Bool.false_and]
    rw [hpB]
    repeat' first | ((first | with_reducible apply WB.tt | with_reducible apply WB.ff | refine Rn.seq ?_ | refine Rn.reg ?_ | refine Rn.drw ?_ | refine Rn.blk ?_ | refine Rn.skip ?_ | refine Rn.ret ?_ | refine Rn.exit ?_ | refine Rn.cond rfl ?_ | refine And.intro (InR.i64 (by omega) (by omega)) ?_ | refine And.intro (show _ ≠ (0 : Int) by omega) ?_ | refine WIx.intsN (by omega) ?_ | refine WIx.rowsN (by omega) ?_ | refine WCall.pure (cC) ?_ | with_reducible refine WB.decT (by first | with_reducible rfl | assumption | omega | exact ⟨rfl, rfl⟩) ?_ | with_reducible refine WB.decF (by first | assumption | omega) ?_ | with_reducible refine WB.ndT (by first | with_reducible rfl | assumption | omega | exact ⟨rfl, rfl⟩) ?_ | with_reducible refine WB.ndF (by first | assumption | omega) ?_ | with_reducible refine WB.nt ?_ | with_reducible refine WB.nf ?_ | with_reducible refine WB.dec (fun h => ?_) (fun h => ?_) | with_reducible refine WB.ndec (fun h => ?_) (fun h => ?_) | refine WB.mk (fun h => ?_) (fun h => ?_)) <;> conv => whnf)
    exact Fin.b rfl rfl
end Go.Ev

namespace Go.Ev
open Go.Proofs
set_option maxRecDepth 100000
theorem ints_one' (l : List Int) : ∀ r ∈ ints l, r.length = 1 := fun r hr => by
  obtain ⟨n, _, rfl⟩ := List.mem_map.1 hr
  rfl
theorem nineT {m : Nat} (h : m < 9) : m = 0 ∨ m = 1 ∨ m = 2 ∨ m = 3 ∨ m = 4 ∨ m = 5 ∨ m = 6 ∨ m = 7 ∨ m = 8 := by omega
theorem puL_map_j (l : List Int) : PuL (l.map fun n => D.i .i64 n) := PuL_iff.2 fun d hd => by
  obtain ⟨n, _, rfl⟩ := List.mem_map.1 hd
  exact trivial
end Go.Ev
