import Derived.Test.YtkbgaadfednjpaaGreatDoorEvUH
set_option linter.all false
set_option maxHeartbeats 8000000
noncomputable section
namespace Go.Ev
open Go.RowKit (Below)
theorem mE {w : World} {g o : Nat} {vs : Array Value} {e : TypeId} {fr : Nat × Nat} (v : Value) (h : w.heap[g]? = some (.cells vs e fr)) :
 (w.setCell ⟨g, o, none⟩ v).heap[g]? = some (.cells (vs.setIfInBounds o v) e fr) := by
 simp only [World.setCell, Array.getElem?_modify, h]
 simp
theorem cP : ∀ (new : List Value) {w : World} {g o : Nat} {vs : Array Value} {e : TypeId} {fr : Nat × Nat}, w.heap[g]? = some (.cells vs e fr) -> o + new.length <= vs.size ->
 (w.setCells g o new).heap[g]? = some (.cells (splice vs.toList o new).toArray e fr)
 | [], w, g, o, vs, e, fr, h, _ => by rw [World.setCells, h, rE]
 | v :: r, w, g, o, vs, e, fr, h, hle => by
   rw [World.setCells]
   have h1 := mE (o := o) v h
   have hle' : o + 1 + r.length <= vs.size := by simp at hle; omega
   rw [cP r h1 (by simp; omega)]
   congr 2
   rw [Array.toList_setIfInBounds]
   rw [oY (by simpa using hle')]
theorem gJ : ∀ (new : List Value) (w : World) (g o : Nat), (w.setCells g o new).heap.size = w.heap.size
 | [], _, _, _ => rfl
 | v :: r, w, g, o => by rw [World.setCells, gJ r]; simp [World.setCell]
theorem bG : ∀ (new : List Value) (w : World) (g o : Nat) {k : Nat}, k ≠ g -> (w.setCells g o new).heap[k]? = w.heap[k]?
 | [], _, _, _, _, _ => rfl
 | v :: r, w, g, o, k, h => by rw [World.setCells, bG r _ g _ h]; exact Below.heap_setCell w ⟨g, o, none⟩ v k h
theorem jT : ∀ (new : List Value) (w : World) (g o : Nat), (w.setCells g o new).os = w.os /\ (w.setCells g o new).tape = w.tape /\ (w.setCells g o new).output = w.output
 | [], _, _, _ => ⟨rfl, rfl, rfl⟩
 | v :: r, w, g, o => by rw [World.setCells]; exact jT r _ g _
theorem jQ {w : World} {g o : Nat} {vs : Array Value} {e : TypeId} {fr : Nat × Nat} {new : List Value} (h : w.heap[g]? = some (.cells vs e fr)) (hle : o + new.length <= vs.size) (c : Nat) (x : TypeId × Nat) (hx : w.shape? c = some x) : (w.setCells g o new).shape? c = some x := by
 by_cases hc : c = g
 ·subst hc
  rw [bX h] at hx
  rw [bX (cP new h hle)]
  rw [<- hx]
  congr 2
  rw [List.size_toArray, kV (by simpa using hle)]
  simp
 ·rw [cY (bG new w g o hc)]; exact hx
theorem kQ {w : World} {g o : Nat} {vs : Array Value} {e : TypeId} {fr : Nat × Nat} {new : List Value} (h : w.heap[g]? = some (.cells vs e fr)) (c : Nat) (r : Loop) (hr : w.heap[c]? = some (.loop r)) : ∃ r', (w.setCells g o new).heap[c]? = some (.loop r') := by
 have hc : c ≠ g := by rintro rfl; rw [h] at hr; cases hr
 exact ⟨r, by rw [bG new w g o hc]; exact hr⟩
theorem kN {α : Type} {l new : List α} {o : Nat} (h : o + new.length <= l.length) (i : Nat) : (splice l o new)[i]? = if i < o then l[i]? else if i < o + new.length then new[i - o]? else l[i]? := by
 unfold splice
 by_cases h1 : i < o
 ·rw [if_pos h1, List.append_assoc, List.getElem?_append_left (by simp; omega), List.getElem?_take_of_lt h1]
 ·rw [if_neg h1]
  by_cases h2 : i < o + new.length
  ·rw [if_pos h2, List.append_assoc, List.getElem?_append_right (by simp; omega), List.getElem?_append_left (by simp; omega)]
   congr 1; simp; omega
  ·rw [if_neg h2, List.append_assoc, List.getElem?_append_right (by simp; omega), List.getElem?_append_right (by simp; omega), List.getElem?_drop]
   congr 1; simp; omega
section
variable {P : Program} {V : Sel} {γ : Gh} {a : Act} {w : World} {sl : T D} {ob : T C} {nx : Pos} {lg : Option (T Bool)} {nt : Nat} {o : Oper} {ro : Option Nat}
theorem uY {id : Pos} {r : Bool} {cs : List Cell} {cur st p : Nat} {c : Cell} (H : HoldsO P γ w id (.cells r cs cur)) (hst : st < γ.cur id) (hp : cs[p]? = some c) (hh : c.has st = true) (hd : (γ.β id st).2 <= p) :
 ∃ u, w.cell? ⟨(γ.β id st).1, p - (γ.β id st).2, none⟩ = some u /\ DV γ w c.d u /\ u.oneCell' = true := by
 obtain ⟨_, h1, h2⟩ := H
 obtain ⟨vs, e, fr, h3, _, h4⟩ := h2 st (by omega)
 obtain ⟨u, h5, h6, h7⟩ := h4 p c hp hh hd
 exact ⟨u, by simp [World.cell?, h3, h5], h6, h7⟩
theorem nG {id : Pos} {r : Bool} {cs : List Cell} {cur st off n : Nat} {ds : List D} (H : HoldsO P γ w id (.cells r cs cur)) (hst : st < γ.cur id) (hd : (γ.β id st).2 <= off) (hn : ds.length = n)
 (hds : ∀ (i : Nat) d, ds[i]? = some d -> ∃ c, (cs.drop off)[i]? = some c /\ c.has st = true /\ c.d = d) :
 ∃ us : List Value, us.length = n /\ w.rangeAt (γ.β id st).1 (off - (γ.β id st).2) us /\ DVL γ w ds us /\ ∀ u ∈ us, u.oneCell' = true := by
 induction ds generalizing off n with
 | nil => exact ⟨[], by simpa using hn, fun j v hv => by simp at hv, DVL.nil, by simp⟩
 | cons d ds ih =>
   subst hn
   obtain ⟨c, h1, h2, h3⟩ := hds 0 d rfl
   rw [List.getElem?_drop, Nat.add_zero] at h1
   obtain ⟨u, e1, e2, e3⟩ := uY H hst h1 h2 hd
   obtain ⟨us, e4, e5, e6, e7⟩ := ih (off := off + 1) (n := ds.length) (by omega) rfl (fun i d' hi => by
    obtain ⟨c', h4, h5⟩ := hds (i + 1) d' (by simpa using hi)
    refine ⟨c', ?_, h5⟩
    rw [List.getElem?_drop] at h4 ⊢
    rw [show off + 1 + i = off + (i + 1) by omega]; exact h4)
   refine ⟨u :: us, by simp [e4], fun j v hv => ?_, DVL.cons (by rw [<- h3]; exact e2) e6, fun x hx => ?_⟩
   ·cases j with
    | zero => simp at hv; subst hv; exact e1
    | succ j =>
      have := e5 j v (by simpa using hv)
      rw [show off + 1 - (γ.β id st).2 + j = off - (γ.β id st).2 + (j + 1) by omega] at this
      exact this
   ·rcases List.mem_cons.1 hx with rfl | hx
    ·exact e3
    ·exact e7 x hx
theorem eF {t : TypeId} {n : Nat} (h1 : dS P t = some true) (h2 : cT P t = some n) {b o : Nat} {vs : List Value} (hv : w.rangeAt b o vs) (hn : vs.length = n) :
 (loadVar t ⟨b, o, none⟩).run P w = .ok (.agg vs.toArray) w := by
 subst hn
 have hl : (loadCells ⟨b, o, none⟩ vs.length).run P w = .ok vs.toArray w :=
  run_loadCells_list (P := P) w ⟨b, o, none⟩ vs (fun j v hj => by rw [Addr.add_mid]; exact hv j v hj)
 simp only [loadVar, Sem.run_bind, kC h1, Result.andThen_ok, if_true, aP h2, hl]
 rfl
theorem fH {t : TypeId} (h1 : dS P t = some false) {ad : Addr} {v : Value} (hv : w.cell? ad = some v) :
 (loadVar t ad).run P w = .ok v w := by
 simp [loadVar, Sem.run_bind, kC h1, hv]
theorem sJ {t : TypeId} {b o : Nat} {v : Value} (h2 : cT P t = some v.cells.size) (ht : w.there b o v.cells.size) (h1 : ∀ u ∈ v.cells.toList, u.oneCell' = true) :
 (storeVar t ⟨b, o, none⟩ v).run P w = .ok () (w.setCells b o v.cells.toList) := by
 have := run_storeCells_cells (P := P) b o v.cells.toList 0 w (fun j hj => by simpa using (ht j (by simpa using hj)).1) (fun j hj => by simpa using (ht j (by simpa using hj)).2) h1
 simp only [Nat.add_zero] at this
 simp [storeVar, aP h2, this]
theorem kM {t : TypeId} {x : Operand} (ho : o.op = .load t x) {ad : Addr} (hx : a.eval x = .pointer (some ad)) {u : Value} (hl : (loadVar t ad).run P w = .ok u w) :
 (execOp a.eval o).run P w = .ok (.value u) w := by
 simp [execOp, ho, hx, Instr.loadAt, Instr.sureAddr, hl]
theorem yQ {t : TypeId} {x y : Operand} (ho : o.op = .store t x y) {w' : World} {ad : Addr} (hx : a.eval x = .pointer (some ad)) (hl : (storeVar t ad (a.eval y)).run P w = .ok () w') :
 (execOp a.eval o).run P w = .ok .skip w' := by
 simp [execOp, ho, hx, Instr.storeAt, Instr.sureAddr, hl]
theorem Er {t : TypeId} {x : Operand} {d : Pos} {r : RX} {Z : X} (ho : o.op = .load t x) (hd : o.dst = some d.ix) (hlt : d.ix < nt) (hx : rx x = some r) (ht : dS P t = some false) (h : tR d r sl ob nx lg = some Z) : OpOk P nt o r.ss ⟨sl, ob, nx, lg⟩ Z := by
 unfold tR at h
 split at h
 ·rename_i id off st hv
  split at h
  ·rename_i q cs cur hob
   split at h
   ·rename_i c hc
    obtain ⟨h1, h2⟩ := jR h
    obtain ⟨lg', h3, h4, h5⟩ := eN h2
    rw [aE h3]
    rw [dJ] at hc
    refine OpOk.pure hd hlt h4 fun V hs hto γ a w R => ?_
    obtain ⟨e1, e2, e3⟩ := jN (aB hx hv R hs)
    obtain ⟨u, e4, e5, e6⟩ := uY (R.ob id _ (hto id h5) hob) e1 hc h1 e2
    exact ⟨u, kM ho e3 (fH ht e4), e5⟩
   ·cases h
  ·cases h
 ·rename_i r' k hv
  split at h
  ·rename_i v hc
   rw [aE h]
   rw [dJ] at hc
   refine OpOk.pure hd hlt (LgLe.refl _) fun V hs hto γ a w R => ?_
   obtain ⟨b, q, vs, e, fr, k1, k2, e3, k4, k5, k6⟩ := oS (aB hx hv R hs)
   obtain ⟨l1, l2⟩ := aK.1 k5
   have hlt : k < r'.length := (List.getElem?_eq_some_iff.1 hc).1
   have hq : q + k < vs.size := by omega
   refine ⟨vs[q + k], kM ho e3 (fH ht ?_), l2 k _ _ hc ?_⟩
   ·unfold World.cell?
    simp [k2, hq]
   ·rw [List.getElem?_take_of_lt hlt, List.getElem?_drop]
    simp [hq]
  ·cases h
 ·cases h
theorem Ce {t : TypeId} {x : Operand} {n : Nat} {d : Pos} {r : RX} {Z : X} (ho : o.op = .load t x) (hd : o.dst = some d.ix) (hlt : d.ix < nt) (hx : rx x = some r) (ht : dS P t = some true) (hn : cT P t = some n) (h : zJ d r n sl ob nx lg = some Z) : OpOk P nt o r.ss ⟨sl, ob, nx, lg⟩ Z := by
 unfold zJ at h
 split at h
 ·rename_i id off st hv
  split at h
  ·rename_i q cs cur hob
   obtain ⟨ds, h1, h2, h6⟩ := mW h
   obtain ⟨lg', h3, h4, h5⟩ := eN h1
   rw [aE h3]
   rw [bK] at h6
   refine OpOk.pure hd hlt h4 fun V hs hto γ a w R => ?_
   obtain ⟨e1, e2, e3⟩ := jN (aB hx hv R hs)
   obtain ⟨us, e4, e5, e6, e7⟩ := nG (R.ob id _ (hto id h5) hob) e1 e2 h2 h6
   refine ⟨.agg us.toArray, kM ho e3 (eF ht hn e5 e4), ?_⟩
   unfold DV
   exact ⟨_, rfl, e6, e7⟩
  ·cases h
 ·rename_i r' k hv
  obtain ⟨h1, h2⟩ := mK h
  rw [bK] at h1 h2
  rw [aE h2]
  refine OpOk.pure hd hlt (LgLe.refl _) fun V hs hto γ a w R => ?_
  obtain ⟨b, q, vs, e, fr, k1, k2, e3, k4, k5, k6⟩ := oS (aB hx hv R hs)
  simp only [List.length_drop] at h1
  have l1 := (k5.drop k).take n
  have hsub : (((vs.toList.drop q).take r'.length).drop k).take n = (vs.toList.drop (q + k)).take n := by
   rw [List.drop_take, List.take_take, List.drop_drop]
   rw [Nat.min_def]
   split
   ·rfl
   ·have : n = 0 := by omega
    omega
  refine ⟨.agg ((vs.toList.drop (q + k)).take n).toArray, kM ho e3 (eF ht hn (fun j u hu => ?_) ?_), ?_⟩
  ·have hj : j < n := by have := (List.getElem?_eq_some_iff.1 hu).1; simp at this; omega
   rw [List.getElem?_take_of_lt hj, List.getElem?_drop] at hu
   unfold World.cell?
   simp [k2] at hu ⊢
   rw [<- hu]
  ·simp; omega
  ·unfold DV
   refine ⟨_, rfl, ?_, fun u hu => ?_⟩
   ·rw [hsub] at l1; simpa using l1
   ·refine k6 u ?_
    rw [<- hsub] at hu
    simp only [List.toList_toArray] at hu
    exact List.mem_of_mem_drop (List.mem_of_mem_take hu)
 ·cases h
theorem lA {id : Pos} {cs : List Cell} {cur st off : Nat} {mk : D -> Cell} {new : List D} {nv : List Value} (g : G ro γ a w) (H : HoldsO P γ w id (.cells false cs cur)) (hst : st < γ.cur id) (hd : (γ.β id st).2 <= off) (hpos : 0 < new.length)
 (hle : off + new.length <= cs.length) (hsee : ∀ i, i < new.length -> ∃ c, cs[off + i]? = some c /\ c.has st = true) (hnv : DVL γ w new nv) (h1 : ∀ u ∈ nv, u.oneCell' = true)
 (hmk : (mk = (fun d => .o d st) /\ st + 1 = cur) \/ mk = (fun d => .c d st st)) :
 ∃ vs e, w.heap[(γ.β id st).1]? = some (.cells vs e (0, 0)) /\ off - (γ.β id st).2 + nv.length <= vs.size /\
   (Fr (fun j => j = id) γ γ w (w.setCells (γ.β id st).1 (off - (γ.β id st).2) nv) /\ (∀ a' : Act, a'.defers = a.defers -> G ro γ a' (w.setCells (γ.β id st).1 (off - (γ.β id st).2) nv)) /\
     HoldsO P γ (w.setCells (γ.β id st).1 (off - (γ.β id st).2) nv) id (.cells false (cs.take off ++ (new.map mk ++ cs.drop (off + new.length))) cur)) := by
 obtain ⟨h2, h3, h4⟩ := H
 obtain ⟨vs, e, fr, h5, h6, h7⟩ := h4 st (by omega)
 obtain rfl := h6 rfl
 have hnl : nv.length = new.length := (aK.1 hnv).1.symm
 have hroom : off - (γ.β id st).2 + nv.length <= vs.size := by
  obtain ⟨c, hc, hh⟩ := hsee (new.length - 1) (by omega)
  obtain ⟨u, h8, _⟩ := h7 _ c hc hh (by omega)
  have := (Array.getElem?_eq_some_iff.1 h8).1
  omega
 obtain ⟨F, g'⟩ := nO (w' := w.setCells (γ.β id st).1 (off - (γ.β id st).2) nv) g id (by rw [gJ]; exact Nat.le_refl _)
  (fun c hc hn => bG nv w _ _ (fun e => hn st hst e.symm)) (jQ h5 hroom) (kQ h5) (jT nv w _ _) (fun x => World.frozen?_setCells _ _ _ _ x)
 refine ⟨vs, e, h5, hroom, F, g', h2, h3, fun s hs => ?_⟩
 obtain ⟨vs2, e2, fr2, k1, k2, k3⟩ := h4 s hs
 have hs' : s < γ.cur id := by omega
 -- the new list, by places
 have hat : ∀ p, (cs.take off ++ (new.map mk ++ cs.drop (off + new.length)))[p]? = if p < off then cs[p]? else if p < off + new.length then (new[p - off]?).map mk else cs[p]? := by
  intro p
  have := kN (l := cs) (new := new.map mk) (o := off) (by simpa using hle) p
  unfold splice at this
  rw [List.append_assoc] at this
  simpa using this
 by_cases hb : (γ.β id s).1 = (γ.β id st).1
 ·have hδ : (γ.β id s).2 = (γ.β id st).2 := (g.inj id s id st hs' hst hb).2
  rw [hb, h5] at k1
  cases k1
  refine ⟨_, e, (0, 0), by rw [hb]; exact cP nv h5 hroom, fun _ => rfl, fun p c hp hh hdp => ?_⟩
  rw [hat] at hp
  rw [hδ] at hdp k3 ⊢
  have hsp : (splice vs.toList (off - (γ.β id st).2) nv).toArray[p - (γ.β id st).2]? = (splice vs.toList (off - (γ.β id st).2) nv)[p - (γ.β id st).2]? := by simp
  rw [hsp, kN (by simpa using hroom)]
  by_cases hp1 : p < off
  ·rw [if_pos hp1] at hp
   rw [if_pos (by omega)]
   obtain ⟨u, q1, q2, q3⟩ := k3 p c hp hh hdp
   exact ⟨u, by simpa using q1, DV.mono F.up _ _ q2, q3⟩
  ·rw [if_neg hp1] at hp
   rw [if_neg (by omega)]
   by_cases hp2 : p < off + new.length
   ·rw [if_pos hp2] at hp
    rw [if_pos (by omega)]
    cases hd2 : new[p - off]? with
    | none => rw [hd2] at hp; cases hp
    | some d =>
      rw [hd2] at hp
      cases hp
      have hlt : p - off < nv.length := by have := (List.getElem?_eq_some_iff.1 hd2).1; omega
      refine ⟨nv[p - off], by rw [show p - (γ.β id st).2 - (off - (γ.β id st).2) = p - off by omega]; exact List.getElem?_eq_getElem hlt, ?_, h1 _ (List.getElem_mem _)⟩
      have := (aK.1 hnv).2 (p - off) d _ hd2 (List.getElem?_eq_getElem hlt)
      rcases hmk with ⟨rfl, _⟩ | rfl <;> exact DV.mono F.up _ _ this
   ·rw [if_neg hp2] at hp
    rw [if_neg (by omega)]
    obtain ⟨u, q1, q2, q3⟩ := k3 p c hp hh hdp
    exact ⟨u, by simpa using q1, DV.mono F.up _ _ q2, q3⟩
 ·refine ⟨vs2, e2, fr2, by rw [bG nv w _ _ hb]; exact k1, k2, fun p c hp hh hdp => ?_⟩
  rw [hat] at hp
  by_cases hp1 : p < off
  ·rw [if_pos hp1] at hp
   obtain ⟨u, q1, q2, q3⟩ := k3 p c hp hh hdp
   exact ⟨u, q1, DV.mono F.up _ _ q2, q3⟩
  ·rw [if_neg hp1] at hp
   by_cases hp2 : p < off + new.length
   ·rw [if_pos hp2] at hp
    exfalso
    apply hb
    have : s = st := by
     cases hd2 : new[p - off]? with
     | none => rw [hd2] at hp; cases hp
     | some d =>
       rw [hd2] at hp
       cases hp
       rcases hmk with ⟨rfl, hc⟩ | rfl
       ·have := Nat.le_of_ble_eq_true hh
        omega
       ·have hh : (Nat.ble st s && Nat.ble s st) = true := hh
        rw [Bool.and_eq_true] at hh
        have := Nat.le_of_ble_eq_true hh.1
        have := Nat.le_of_ble_eq_true hh.2
        omega
    rw [this]
   ·rw [if_neg hp2] at hp
    obtain ⟨u, q1, q2, q3⟩ := k3 p c hp hh hdp
    exact ⟨u, q1, DV.mono F.up _ _ q2, q3⟩
theorem lS {id : Pos} {c : C} {Z : X} (h : oP sl ob nx lg id c = some Z) : ∃ lg', Z = ⟨sl, T.set id c ob, nx, lg'⟩ /\ LgLe lg lg' /\ wrtn lg' id := by
 unfold oP at h
 obtain ⟨lg', h1, h2, h3⟩ := mB h
 rw [T.setK_eq] at h1
 cases h1
 exact ⟨lg', rfl, h2, h3⟩
theorem rV {id : Pos} {c : C} {d : Pos} {v : D} {Z : X} (h : eP sl ob nx lg id c d v = some Z) : ∃ lg', Z = ⟨T.set d v sl, T.set id c ob, nx, lg'⟩ /\ LgLe lg lg' /\ wrtn lg' id := by
 unfold eP at h
 obtain ⟨lg', h1, h2, h3⟩ := mB h
 rw [T.setK_eq] at h1
 exact ⟨lg', aE h1, h2, h3⟩
theorem GA {t : TypeId} {x y : Operand} {n : Nat} {r1 r2 : RX} {Z : X} (ho : o.op = .store t x y) (hd : o.dst = none) (hx : rx x = some r1) (hy : rx y = some r2) (hn : cT P t = some (n + 1)) (h : By r1 r2 (n + 1) sl ob nx lg = some Z) : OpOk P nt o (r1.ss ++ r2.ss) ⟨sl, ob, nx, lg⟩ Z := by
 unfold By at h
 split at h
 ·rename_i id off st v hv hw
  split at h
  ·rename_i cs cur ds hob hds
   cases hb : Nat.beq ds.length (n + 1) with
   | false => rw [hb] at h; cases h
   | true =>
     rw [hb] at h
     simp only [cond_true] at h
     have hdn := Nat.eq_of_beq_eq_true hb
     have key : ∀ mk : D -> Cell, ((mk = (fun d => .o d st) /\ st + 1 = cur) \/ mk = (fun d => .c d st st)) -> eL st mk ds off cs (fun cs => oP sl ob nx lg id (.cells false cs cur)) = some Z -> OpOk P nt o (r1.ss ++ r2.ss) ⟨sl, ob, nx, lg⟩ Z := by
      intro mk hmk h
      obtain ⟨h1, h2, h3⟩ := kO h
      obtain ⟨lg', rfl, h4, h5⟩ := lS h2
      refine OpOk.skip hd h4 ((Keeps.refl _ _).set h5 _) fun V hs hto ro γ a w g R => ?_
      obtain ⟨e1, e2, e3⟩ := jN (aB hx hv R fun s h => hs s (by simp [h]))
      obtain ⟨c1, c2⟩ := oE (aB hy hw R fun s h => hs s (by simp [h])) hds
      have hvl : (a.eval y).cells.size = n + 1 := by have := (aK.1 c1).1; simp at this; omega
      obtain ⟨vs, e, q1, q2, F, g', H'⟩ := lA g (R.ob id _ (hto id h5.tchd) hob) e1 e2 (by omega) h1 h3 c1 c2 hmk
      have hsv := sJ (P := P) (t := t) (w := w) (b := (γ.β id st).1) (o := off - (γ.β id st).2) (v := a.eval y) (by rw [hn, hvl]) (fun j hj => by
       have hj2 : off - (γ.β id st).2 + j < vs.size := by simp at q2; omega
       exact ⟨by simp [World.cell?, q1, hj2], by simp [World.frozen?, q1]⟩) c2
      exact ⟨_, .inl (yQ ho e3 hsv), F.mono (fun j e => by rw [e]; exact h5), g', aQ R g F fun _ => H'⟩
     cases hb2 : Nat.beq (Nat.succ st) cur with
     | true =>
       rw [hb2] at h
       exact key _ (.inl ⟨rfl, Nat.eq_of_beq_eq_true hb2⟩) h
     | false =>
       rw [hb2] at h
       exact key _ (.inr rfl) h
  ·cases h
 ·cases h
end
open Go.RowKit (Below)
section
variable {P : Program} {V : Sel} {γ : Gh} {a : Act} {w : World} {sl : T D} {ob : T C} {nx : Pos} {lg : Option (T Bool)} {nt : Nat} {o : Oper} {ro : Option Nat}
theorem zM {id : Option Pos} {k : Option (T Bool) -> Option X} {Z : X} (h : rK lg id k = some Z) : ∃ lg', k lg' = some Z /\ LgLe lg lg' /\ ∀ j, id = some j -> tchd lg' j := by
 cases id with
 | none => exact ⟨lg, h, LgLe.refl _, fun j e => by cases e⟩
 | some i =>
   obtain ⟨lg', h1, h2, h3⟩ := eN h
   exact ⟨lg', h1, h2, fun j e => by cases e; exact h3⟩
theorem zX {z : Nat} {y : D} {k : Option Pos -> Nat -> List D -> Option X} {Z : X} (h : pI ob z y k = some Z) :
 ∃ idy n ds, k idy n ds = some Z /\ ds.length = n * z /\ ∀ {V : Sel} {γ : Gh} {a : Act} {w : World} {v : Value}, Rep P V γ a w ⟨sl, ob, nx, lg⟩ -> (∀ j, idy = some j -> V.so j) -> DV γ w y v -> ∀ {tx e' : TypeId}, P.underlying tx = some (.slice e') ->
   ∃ us : List Value, Src P z tx v n us w /\ DVL γ w ds us /\ (∃ ad cap, v = .slice ad n cap) /\ ∀ u ∈ us, u.oneCell' = true := by
 unfold pI at h
 split at h
 ·refine ⟨none, 0, [], h, by simp, fun {V γ a w v} R _ hv {tx e'} hu => ⟨[], ?_, DVL.nil, ?_, by simp⟩⟩
  ·unfold DV at hv; subst hv; exact Src.ofNil w hu 0
  ·unfold DV at hv; exact ⟨none, 0, hv⟩
 ·refine ⟨none, 0, [], h, by simp, fun {V γ a w v} R _ hv {tx e'} hu => ?_⟩
  unfold DV at hv
  obtain ⟨ad, rfl⟩ := hv
  exact ⟨[], Src.ofSlice w hu ad 0 0 [] (by simp) (by simp) (by simp), DVL.nil, ⟨_, _, rfl⟩, by simp⟩
 ·rename_i id off len st z'
  cases hb : Nat.beq z z' with
  | false => rw [hb] at h; cases h
  | true =>
    rw [hb] at h
    simp only [cond_true] at h
    obtain rfl := Nat.eq_of_beq_eq_true hb
    split at h
    ·rename_i q cs cur hob
     obtain ⟨ds, h1, h2, h3⟩ := mW h
     rw [bK] at h3
     refine ⟨some id, len, ds, h1, h2, fun {V γ a w v} R hj hv {tx e'} hu => ?_⟩
     obtain ⟨e1, e2, cap, e, n, rfl, e4, e5, e6⟩ := gT hv
     obtain ⟨us, q1, q2, q3, q4⟩ := nG (R.ob id _ (hj id rfl) hob) e1 e2 h2 h3
     refine ⟨us, Src.ofSlice w hu ⟨_, _, none⟩ len cap us q1 (fun j u hu => by rw [Addr.add_mid]; exact q2 j u hu) q4, q3, ⟨_, _, rfl⟩, q4⟩
    ·cases h
 ·rename_i z' es
  cases hb : (Nat.beq z z' && Nat.beq (List.length (List.flatten es)) (Nat.mul (List.length es) z)) with
  | false => rw [hb] at h; cases h
  | true =>
    rw [hb] at h
    simp only [cond_true] at h
    rw [Bool.and_eq_true] at hb
    obtain rfl := Nat.eq_of_beq_eq_true hb.1
    have hlen : es.flatten.length = es.length * z := Nat.eq_of_beq_eq_true hb.2
    refine ⟨none, es.length, es.flatten, h, hlen, fun {V γ a w v} R _ hv {tx e'} hu => ?_⟩
    obtain ⟨p, cap, rfl, e4, e6, e5⟩ := nT hv
    rcases e5 with rfl | ⟨b, o, vs, e, fr, k1, k2, rfl, k4, k5, k6⟩
    ·cases p with
     | none =>
       obtain rfl := e6 rfl
       exact ⟨[], Src.ofNil w hu 0, DVL.nil, ⟨_, _, rfl⟩, by simp⟩
     | some ad => exact ⟨[], Src.ofSlice w hu ad 0 cap [] (by simp) (by simp) (by simp), DVL.nil, ⟨_, _, rfl⟩, by simp⟩
    ·have hl2 : ((vs.toList.drop o).take (es.length * z)).length = es.length * z := by simp; omega
     refine ⟨(vs.toList.drop o).take (es.length * z), Src.ofSlice w hu ⟨b, o, none⟩ es.length cap _ hl2 (fun j u hu => ?_) k6, xK k5, ⟨_, _, rfl⟩, k6⟩
     have hj : j < es.length * z := by have := (List.getElem?_eq_some_iff.1 hu).1; rw [hl2] at this; exact this
     rw [List.getElem?_take_of_lt hj, List.getElem?_drop] at hu
     rw [Addr.add_mid]
     unfold World.cell?
     simp [k2] at hu ⊢
     exact hu
 ·cases h
theorem xI (g : G ro γ a w) (id : Pos) (δ : Nat) (obj : Obj) (hobj : ∀ vs e fr, obj = .cells vs e fr -> fr = (0, 0)) : Fr (fun j => j = id) γ (γ.push id (w.heap.size, δ)) w (w.drew.alloc obj) /\ ∀ a' : Act, a'.defers = a.defers -> G ro (γ.push id (w.heap.size, δ)) a' (w.drew.alloc obj) :=
 qQ g id w.heap.size δ (by rw [dR]; show _ <= w.heap.size + 1; omega) (.inl ⟨Nat.le_refl _, by rw [dR]; show _ < w.heap.size + 1; omega⟩) (fun c hc _ => aX w.drew obj hc)
  (fun c x hx => by rw [cY (aX w.drew obj (mF hx))]; exact hx)
  (fun c r hr => ⟨r, by rw [aX w.drew obj (Array.getElem?_eq_some_iff.1 hr).1]; exact hr⟩) ⟨rfl, rfl, rfl⟩ (fun x => iJ w.drew obj hobj x)
theorem jC {b : Builtin} {args : Array Operand} {tys : Array TypeId} (ho : o.op = .call { callee := .builtin b, args := args, argTypes := tys }) (a : Act) (w : World) :
 ∃ cs, (execOp a.eval o).run P w = (builtin b tys o.type cs (args.map a.eval)).run P w := by
 exact ⟨args.map fun | .const _ => true | _ => false, by
  simp only [execOp, ho, resolve, Sem.run_bind, Sem.run_pure, Result.andThen_ok, invoke]
  congr⟩
theorem fY {args : Array Operand} {t tx : TypeId} {x y : Operand} (ho : o.op = .call { callee := .builtin .append, args := args, argTypes := #[t, tx] }) (ha : args = #[x, y]) {v : Value} {w' : World}
 (h : (Builtin.append_ #[t, tx] o.type #[a.eval x, a.eval y]).run P w = .ok v w') : (execOp a.eval o).run P w = .ok (.value v) w' := by
 subst ha
 obtain ⟨cs, h1⟩ := jC (P := P) ho a w
 rw [h1]
 simp [builtin, h]
theorem rM {ds : List D} {us : List Value} {el : TypeId} {k cap z : Nat} (g : G ro γ a w) (R : Rep P V γ a w ⟨sl, ob, nx, lg⟩) (hso : V.so nx) (h0 : γ.cur nx = 0) (hds : DVL γ w ds us) (h1 : ∀ u ∈ us, u.oneCell' = true) (hk : us.length = k * z) (hcap : k <= cap)
 {rest : Array Value} (hrest : rest.size = (cap - k) * z) :
 ∃ γ', Fr (fun j => j = nx) γ γ' w (w.drew.alloc (.cells (us.toArray ++ rest) el)) /\ (∀ a' : Act, a'.defers = a.defers -> G ro γ' a' (w.drew.alloc (.cells (us.toArray ++ rest) el))) /\
   DV γ' (w.drew.alloc (.cells (us.toArray ++ rest) el)) (.sl nx 0 k 0 z) (.slice (some ⟨w.heap.size, 0, none⟩) k cap) /\
   (∀ id c, V.so id -> (T.set nx (.cells false (ds.map fun d => .o d 0) 1) ob).get id = some c -> HoldsO P γ' (w.drew.alloc (.cells (us.toArray ++ rest) el)) id c) /\ (∀ id, V.so id -> nx.succ.nat <= id.nat -> γ'.cur id = 0) := by
 obtain ⟨F, g'⟩ := xI g nx 0 (.cells (us.toArray ++ rest) el) (fun vs e fr h => by cases h; rfl)
 have hb := γ.push_β nx (w.heap.size, 0)
 rw [h0] at hb
 have hcur : (γ.push nx (w.heap.size, 0)).cur nx = 1 := by rw [γ.push_cur, h0]
 have hh : (w.drew.alloc (.cells (us.toArray ++ rest) el)).heap[w.heap.size]? = some (.cells (us.toArray ++ rest) el) := aW w.drew _
 refine ⟨_, F, g', ?_, aQ R g F fun _ => ?_, fun id hid hle => ?_⟩
 ·unfold DV
  rw [hb, hcur]
  refine ⟨Nat.one_pos, Nat.le_refl _, cap, el, _, rfl, hcap, bX hh, ?_⟩
  simp only [Array.size_append, List.size_toArray, hk, hrest, Nat.sub_zero, Nat.zero_add]
  rw [<- Nat.add_mul]
  exact Nat.mul_le_mul_right _ (by omega)
 ·refine ⟨Nat.one_pos, hcur, fun st hst => ?_⟩
  obtain rfl : st = 0 := by omega
  rw [hb]
  refine ⟨_, el, (0, 0), hh, fun _ => rfl, fun p c hp _ _ => ?_⟩
  rw [List.getElem?_map] at hp
  cases hd : ds[p]? with
  | none => rw [hd] at hp; cases hp
  | some d =>
    rw [hd] at hp
    cases hp
    obtain ⟨h2, h3⟩ := aK.1 hds
    have hlt : p < us.length := by have := (List.getElem?_eq_some_iff.1 hd).1; omega
    refine ⟨us[p], ?_, DV.mono F.up _ _ (h3 p d _ hd (List.getElem?_eq_getElem hlt)), h1 _ (List.getElem_mem _)⟩
    rw [Nat.sub_zero, Array.getElem?_append_left (by simpa using hlt)]
    simp [hlt]
 ·rw [Pos.succ_nat] at hle
  have hne : id ≠ nx := by rintro rfl; omega
  rw [γ.push_cur_ne _ hne]
  exact R.nx id hid (by show nx.nat <= id.nat; omega)
theorem cZ (z : Array Value) (n : Nat) : (Builtin.zeroCells z n).size = n * z.size := by simp [Builtin.zeroCells]
theorem wR {id : Pos} {cs : List Cell} {cur st n : Nat} {ds : List D} {us : List Value} (g : G ro γ a w) (H : HoldsO P γ w id (.cells false cs cur)) (hst : st < γ.cur id) (hd : (γ.β id st).2 <= n) (hn : n <= cs.length) (hop : zB st (cs.take n))
 (hds : DVL γ w ds us) (h1 : ∀ u ∈ us, u.oneCell' = true) {e : TypeId} {sz : Nat} (hsh : w.shape? (γ.β id st).1 = some (e, sz)) (hroom : n - (γ.β id st).2 + us.length <= sz) :
 ∃ γ', γ' = γ.push id (γ.β id st) /\ Fr (fun j => j = id) γ γ' w (w.setCells (γ.β id st).1 (n - (γ.β id st).2) us) /\ (∀ a' : Act, a'.defers = a.defers -> G ro γ' a' (w.setCells (γ.β id st).1 (n - (γ.β id st).2) us)) /\
   HoldsO P γ' (w.setCells (γ.β id st).1 (n - (γ.β id st).2) us) id (.cells false (cs.take n ++ (ds.map (fun d => .o d cur) ++ (cs.drop (n + ds.length)).map (hG (cur - 1)))) (cur + 1)) /\
   (∀ j, j < us.length -> (w.cell? ⟨(γ.β id st).1, n - (γ.β id st).2 + j, none⟩).isSome = true) /\ (∀ j, j < us.length -> w.frozen? ⟨(γ.β id st).1, n - (γ.β id st).2 + j, none⟩ = false) := by
 obtain ⟨h2, h3, h4⟩ := H
 obtain ⟨vs, e', fr, h5, h6, h7⟩ := h4 st (by omega)
 obtain rfl := h6 rfl
 have hsz : vs.size = sz := by
  rw [bX h5] at hsh
  cases hsh; rfl
 subst hsz
 have hlen : us.length = ds.length := (aK.1 hds).1.symm
 have key := qQ (w' := w.setCells (γ.β id st).1 (n - (γ.β id st).2) us) (b := (γ.β id st).1) (δ := (γ.β id st).2) g id (by rw [gJ]; exact Nat.le_refl _) (.inr ⟨st, hst, rfl⟩)
  (fun c hc hn => bG us w _ _ (fun e => hn st hst e.symm)) (jQ h5 hroom) (kQ h5) (jT us w _ _) (fun x => World.frozen?_setCells _ _ _ _ x)
 obtain ⟨F, g'⟩ := key
 refine ⟨_, rfl, F, g', ⟨by omega, by rw [γ.push_cur, h3], fun s hs => ?_⟩, fun j hj => ?_, fun j hj => ?_⟩
 ·have hat : ∀ p : Nat, (cs.take n ++ (ds.map (fun d => Cell.o d cur) ++ (cs.drop (n + ds.length)).map (hG (cur - 1))))[p]? = if p < n then cs[p]? else if p < n + ds.length then (ds[p - n]?).map (fun d => Cell.o d cur) else (cs[p]?).map (hG (cur - 1)) := by
   intro p
   by_cases hp : p < n
   ·rw [if_pos hp, List.getElem?_append_left (by simp; omega), List.getElem?_take_of_lt hp]
   ·rw [if_neg hp, List.getElem?_append_right (by simp; omega)]
    have hl : (cs.take n).length = n := by simp; omega
    rw [hl]
    by_cases hp2 : p < n + ds.length
    ·rw [if_pos hp2, List.getElem?_append_left (by simp; omega), List.getElem?_map]
    ·rw [if_neg hp2, List.getElem?_append_right (by simp; omega), List.getElem?_map, List.getElem?_drop]
     congr 2; simp; omega
  have hself := cP us h5 hroom
  have hsp : ∀ i : Nat, (splice vs.toList (n - (γ.β id st).2) us).toArray[i]? = (splice vs.toList (n - (γ.β id st).2) us)[i]? := by intro i; simp
  -- an old claim, in the block that was written
  have old : ∀ s0, s0 < γ.cur id -> (γ.β id s0).1 = (γ.β id st).1 -> ∀ (p : Nat) c, cs[p]? = some c -> c.has s0 = true -> (γ.β id st).2 <= p -> (p < n \/ n + ds.length <= p) -> ∃ u, (splice vs.toList (n - (γ.β id st).2) us)[p - (γ.β id st).2]? = some u /\ DV (γ.push id (γ.β id st)) (w.setCells (γ.β id st).1 (n - (γ.β id st).2) us) c.d u /\ u.oneCell' = true := by
   intro s0 hs0 hb p c hp hh hdp hpos
   obtain ⟨vs2, e2, fr2, k1, k2, k3⟩ := h4 s0 (by omega)
   have hδ : (γ.β id s0).2 = (γ.β id st).2 := (g.inj id s0 id st hs0 hst hb).2
   rw [hb, h5] at k1
   cases k1
   rw [hδ] at k3
   obtain ⟨u, q1, q2, q3⟩ := k3 p c hp hh hdp
   refine ⟨u, ?_, DV.mono F.up _ _ q2, q3⟩
   rw [kN (by simpa using hroom)]
   rcases hpos with hpos | hpos
   ·rw [if_pos (by omega)]; simpa using q1
   ·rw [if_neg (by omega), if_neg (by omega)]; simpa using q1
  rcases Nat.lt_succ_iff_lt_or_eq.1 hs with hs | hs
  ·have hs' : s < γ.cur id := by omega
   rw [γ.push_β_old id _ hs']
   by_cases hb : (γ.β id s).1 = (γ.β id st).1
   ·have hδ : (γ.β id s).2 = (γ.β id st).2 := (g.inj id s id st hs' hst hb).2
    refine ⟨_, e', (0, 0), by rw [hb]; exact hself, fun _ => rfl, fun p c hp hh hdp => ?_⟩
    rw [hat] at hp
    rw [hδ] at hdp ⊢
    rw [hsp]
    by_cases hp1 : p < n
    ·rw [if_pos hp1] at hp
     exact old s hs' hb p c hp hh hdp (.inl hp1)
    ·rw [if_neg hp1] at hp
     by_cases hp2 : p < n + ds.length
     ·rw [if_pos hp2] at hp
      cases hd2 : ds[p - n]? with
      | none => rw [hd2] at hp; cases hp
      | some d =>
        rw [hd2] at hp
        cases hp
        have := Nat.le_of_ble_eq_true hh
        omega
     ·rw [if_neg hp2] at hp
      cases hc : cs[p]? with
      | none => rw [hc] at hp; cases hp
      | some c0 =>
        rw [hc] at hp
        cases hp
        rw [uO]
        exact old s hs' hb p c0 hc (gO hh).1 hdp (.inr (by omega))
   ·obtain ⟨vs2, e2, fr2, k1, k2, k3⟩ := h4 s hs
    refine ⟨vs2, e2, fr2, by rw [bG us w _ _ hb]; exact k1, k2, fun p c hp hh hdp => ?_⟩
    rw [hat] at hp
    by_cases hp1 : p < n
    ·rw [if_pos hp1] at hp
     obtain ⟨u, q1, q2, q3⟩ := k3 p c hp hh hdp
     exact ⟨u, q1, DV.mono F.up _ _ q2, q3⟩
    ·rw [if_neg hp1] at hp
     by_cases hp2 : p < n + ds.length
     ·rw [if_pos hp2] at hp
      cases hd2 : ds[p - n]? with
      | none => rw [hd2] at hp; cases hp
      | some d =>
        rw [hd2] at hp
        cases hp
        have := Nat.le_of_ble_eq_true hh
        omega
     ·rw [if_neg hp2] at hp
      cases hc : cs[p]? with
      | none => rw [hc] at hp; cases hp
      | some c0 =>
        rw [hc] at hp
        cases hp
        rw [uO]
        obtain ⟨u, q1, q2, q3⟩ := k3 p c0 hc (gO hh).1 hdp
        exact ⟨u, q1, DV.mono F.up _ _ q2, q3⟩
  ·obtain rfl : s = γ.cur id := by omega
   rw [γ.push_β]
   refine ⟨_, e', (0, 0), hself, fun _ => rfl, fun p c hp hh hdp => ?_⟩
   rw [hat] at hp
   rw [hsp]
   by_cases hp1 : p < n
   ·rw [if_pos hp1] at hp
    obtain ⟨d, lo, rfl, hlo⟩ := hop c (by
     rw [List.mem_iff_getElem?]
     exact ⟨p, by rw [List.getElem?_take_of_lt hp1]; exact hp⟩)
    exact old st hst rfl p _ hp (Nat.ble_eq_true_of_le hlo) hdp (.inl hp1)
   ·rw [if_neg hp1] at hp
    by_cases hp2 : p < n + ds.length
    ·rw [if_pos hp2] at hp
     cases hd2 : ds[p - n]? with
     | none => rw [hd2] at hp; cases hp
     | some d =>
       rw [hd2] at hp
       cases hp
       have hlt : p - n < us.length := by have := (List.getElem?_eq_some_iff.1 hd2).1; omega
       refine ⟨us[p - n], ?_, DV.mono F.up _ _ ((aK.1 hds).2 _ d _ hd2 (List.getElem?_eq_getElem hlt)), h1 _ (List.getElem_mem _)⟩
       rw [kN (by simpa using hroom), if_neg (by omega), if_pos (by omega), show p - (γ.β id st).2 - (n - (γ.β id st).2) = p - n by omega]
       exact List.getElem?_eq_getElem hlt
    ·rw [if_neg hp2] at hp
     cases hc : cs[p]? with
     | none => rw [hc] at hp; cases hp
     | some c0 =>
       rw [hc] at hp
       cases hp
       have := (gO hh).2
       omega
 ·have : n - (γ.β id st).2 + j < vs.size := by omega
  simp [World.cell?, h5, this]
 ·simp [World.frozen?, h5]
end
open Go.RowKit (Below)
section
variable {P : Program} {V : Sel} {γ : Gh} {a : Act} {w : World} {sl : T D} {ob : T C} {nx : Pos} {lg : Option (T Bool)} {nt : Nat} {o : Oper} {ro : Option Nat}
theorem vK {id : Pos} {cs : List Cell} {cur st off n m : Nat} {ds : List D} {us : List Value} (g : G ro γ a w) (H : HoldsO P γ w id (.cells false cs cur)) (hst : st < γ.cur id) (hd : (γ.β id st).2 <= off) (hoff : n = off + m) (hn : n <= cs.length) (hop : zB st (cs.take n))
 (hds : DVL γ w ds us) (h1 : ∀ u ∈ us, u.oneCell' = true) :
 ∃ olds : List Value, olds.length = m /\ w.rangeAt (γ.β id st).1 (off - (γ.β id st).2) olds /\ ∀ (el : TypeId) (rest : Array Value),
   ∃ γ', γ' = γ.push id (w.heap.size, off) /\ Fr (fun j => j = id) γ γ' w (w.drew.alloc (.cells ((olds ++ us).toArray ++ rest) el)) /\ (∀ a' : Act, a'.defers = a.defers -> G ro γ' a' (w.drew.alloc (.cells ((olds ++ us).toArray ++ rest) el))) /\
     HoldsO P γ' (w.drew.alloc (.cells ((olds ++ us).toArray ++ rest) el)) id (.cells false (cs.take n ++ (ds.map (fun d => .o d cur) ++ (cs.drop (n + ds.length)).map (hG (cur - 1)))) (cur + 1)) := by
 subst hoff
 have opn : ∀ p c, p < off + m -> cs[p]? = some c -> c.has st = true /\ ∃ d lo, c = .o d lo := by
  intro p c hp hc
  obtain ⟨d, lo, rfl, hlo⟩ := hop c (by
   rw [List.mem_iff_getElem?]
   exact ⟨p, by rw [List.getElem?_take_of_lt hp]; exact hc⟩)
  exact ⟨Nat.ble_eq_true_of_le hlo, d, lo, rfl⟩
 obtain ⟨olds, k1, k2, k3, k4⟩ := nG (ds := ((cs.drop off).take m).map Cell.d) H hst hd (n := m) (by simp; omega) (fun i d hi => by
  rw [List.getElem?_map] at hi
  cases hc : ((cs.drop off).take m)[i]? with
  | none => rw [hc] at hi; cases hi
  | some c =>
    rw [hc] at hi
    cases hi
    have him : i < m := by have := (List.getElem?_eq_some_iff.1 hc).1; simp at this; omega
    rw [List.getElem?_take_of_lt him] at hc
    have hc' := hc
    rw [List.getElem?_drop] at hc'
    exact ⟨c, hc, (opn (off + i) c (by omega) hc').1, rfl⟩)
 refine ⟨olds, k1, k2, fun el rest => ?_⟩
 obtain ⟨h2, h3, h4⟩ := H
 have hlen : us.length = ds.length := (aK.1 hds).1.symm
 obtain ⟨F, g'⟩ := xI g id off (.cells ((olds ++ us).toArray ++ rest) el) (fun vs e fr h => by cases h; rfl)
 refine ⟨_, rfl, F, g', by omega, by rw [γ.push_cur, h3], fun s hs => ?_⟩
 have hat : ∀ p : Nat, (cs.take (off + m) ++ (ds.map (fun d => Cell.o d cur) ++ (cs.drop (off + m + ds.length)).map (hG (cur - 1))))[p]? = if p < off + m then cs[p]? else if p < off + m + ds.length then (ds[p - (off + m)]?).map (fun d => Cell.o d cur) else (cs[p]?).map (hG (cur - 1)) := by
  intro p
  by_cases hp : p < off + m
  ·rw [if_pos hp, List.getElem?_append_left (by simp; omega), List.getElem?_take_of_lt hp]
  ·rw [if_neg hp, List.getElem?_append_right (by simp; omega)]
   have hl : (cs.take (off + m)).length = off + m := by simp; omega
   rw [hl]
   by_cases hp2 : p < off + m + ds.length
   ·rw [if_pos hp2, List.getElem?_append_left (by simp; omega), List.getElem?_map]
   ·rw [if_neg hp2, List.getElem?_append_right (by simp; omega), List.getElem?_map, List.getElem?_drop]
    congr 2; simp; omega
 rcases Nat.lt_succ_iff_lt_or_eq.1 hs with hs | hs
 ·have hs' : s < γ.cur id := by omega
  rw [γ.push_β_old id _ hs']
  obtain ⟨vs2, e2, fr2, q1, q2, q3⟩ := h4 s hs
  refine ⟨vs2, e2, fr2, ?_, q2, fun p c hp hh hdp => ?_⟩
  ·rw [aX w.drew _ (g.ob id s hs')]; exact q1
  ·rw [hat] at hp
   by_cases hp1 : p < off + m
   ·rw [if_pos hp1] at hp
    obtain ⟨u, r1, r2, r3⟩ := q3 p c hp hh hdp
    exact ⟨u, r1, DV.mono F.up _ _ r2, r3⟩
   ·rw [if_neg hp1] at hp
    by_cases hp2 : p < off + m + ds.length
    ·rw [if_pos hp2] at hp
     cases hd2 : ds[p - (off + m)]? with
     | none => rw [hd2] at hp; cases hp
     | some d =>
       rw [hd2] at hp
       cases hp
       have := Nat.le_of_ble_eq_true hh
       omega
    ·rw [if_neg hp2] at hp
     cases hc : cs[p]? with
     | none => rw [hc] at hp; cases hp
     | some c0 =>
       rw [hc] at hp
       cases hp
       rw [uO]
       obtain ⟨u, r1, r2, r3⟩ := q3 p c0 hc (gO hh).1 hdp
       exact ⟨u, r1, DV.mono F.up _ _ r2, r3⟩
 ·obtain rfl : s = γ.cur id := by omega
  rw [γ.push_β]
  refine ⟨_, el, (0, 0), aW w.drew _, fun _ => rfl, fun p c hp hh hdp => ?_⟩
  simp only at hdp
  rw [hat] at hp
  by_cases hp1 : p < off + m
  ·rw [if_pos hp1] at hp
   have hlt : p - off < olds.length := by omega
   have hcd : (((cs.drop off).take m).map Cell.d)[p - off]? = some c.d := by
    rw [List.getElem?_map, List.getElem?_take_of_lt (by omega), List.getElem?_drop, show off + (p - off) = p by omega, hp]; rfl
   refine ⟨olds[p - off], ?_, DV.mono F.up _ _ ((aK.1 k3).2 _ _ _ hcd (List.getElem?_eq_getElem hlt)), k4 _ (List.getElem_mem _)⟩
   simp only
   rw [Array.getElem?_append_left (by simp; omega)]
   simp only [List.getElem?_toArray]
   rw [List.getElem?_append_left hlt]
   exact List.getElem?_eq_getElem hlt
  ·rw [if_neg hp1] at hp
   by_cases hp2 : p < off + m + ds.length
   ·rw [if_pos hp2] at hp
    cases hd2 : ds[p - (off + m)]? with
    | none => rw [hd2] at hp; cases hp
    | some d =>
      rw [hd2] at hp
      cases hp
      have hlt : p - (off + m) < us.length := by have := (List.getElem?_eq_some_iff.1 hd2).1; omega
      refine ⟨us[p - (off + m)], ?_, DV.mono F.up _ _ ((aK.1 hds).2 _ d _ hd2 (List.getElem?_eq_getElem hlt)), h1 _ (List.getElem_mem _)⟩
      simp only
      rw [Array.getElem?_append_left (by simp; omega)]
      simp only [List.getElem?_toArray]
      rw [List.getElem?_append_right (by omega), k1, show p - off - m = p - (off + m) by omega]
      exact List.getElem?_eq_getElem hlt
   ·rw [if_neg hp2] at hp
    cases hc : cs[p]? with
    | none => rw [hc] at hp; cases hp
    | some c0 =>
      rw [hc] at hp
      cases hp
      have := (gO hh).2
      omega
theorem CR {args : Array Operand} {tys : Array TypeId} {t el : TypeId} {x : Operand} {d : Pos} {r : RX} {Z : X} (ho : o.op = .call { callee := .builtin .cap, args := args, argTypes := tys }) (ha : args.toList = [x]) (ht : tys.toList = [t]) (hd : o.dst = some d.ix) (hlt : d.ix < nt) (hx : rx x = some r) (hu : P.underlying t = some (.slice el))
 (h : Aj d r sl ob nx lg = some Z) : OpOk P nt o r.ss ⟨sl, ob, nx, lg⟩ Z := by
 have hargs : args = #[x] := by rw [<- Array.toArray_toList (xs := args), ha]
 have htys : tys = #[t] := by rw [<- Array.toArray_toList (xs := tys), ht]
 subst hargs
 subst htys
 unfold Aj at h
 split at h <;> first | (cases h; done) | skip
 rename_i hv
 rw [aE h]
 refine OpOk.pure hd hlt (LgLe.refl _) fun V hs _ γ a w R => ⟨_, ?_, DV_of_i _ _⟩
 have := aB hx hv R hs
 unfold DV at this
 simp [execOp, ho, resolve, invoke, builtin, this, Builtin.cap_, goInt, run_underlying hu]
theorem oJ (w : World) (t tx ty e : TypeId) (k : IntKind) (i : TypeInfo) (z : Value) (ht : P.underlying t = some (.slice e)) (hk : P.underlying tx = some (.int k)) (hi : P.info? e = some i) (hz : i.zero = some z) (n : Nat) (h1 : 0 < n) (hn : n <= 65536) (hb : i.bytes <= 65536) (hs : z.cells.size = i.size) :
 (Builtin.append_ #[t, tx] ty #[.slice none 0 0, .int .i64 (n : Int)]).run P w =
   .ok (.slice (some ⟨w.heap.size, 0, none⟩) n (grownCap w n 0 e)) (w.drew.alloc (.cells (Builtin.zeroCells z.cells n ++ Builtin.zeroCells z.cells (grownCap w n 0 e - n)) e)) := by
 have w1 : IntKind.i64.wrap (n : Int) = (n : Int) := IntWalk.i64_in _ (by omega)
 have hneg : ¬ ((n : Int) < 0) := by omega
 have hle : n * i.bytes <= 65536 * 65536 := Nat.mul_le_mul hn hb
 have hby : ¬ ((281474976710656 : Int) < (n : Int) * (i.bytes : Int)) := by
  have : ((n * i.bytes : Nat) : Int) = (n : Int) * (i.bytes : Int) := by simp
  omega
 have hne : ¬ (n <= 0) := by omega
 have h0 : ¬ (n = 0) := by omega
 have h63 : ¬ ((9223372036854775807 : Int) < (n : Int)) := by omega
 have h48 : ¬ (281474976710656 < Builtin.nextslicecap n 0 * i.bytes) := by
  have := growslice_fits (need := n) (old := 0) (bytes := i.bytes) (by omega) (by omega)
  omega
 by_cases hzero : n * i.size = 0
 ·have hzz : Builtin.zeroCells z.cells n = #[] := by
   apply Array.eq_empty_of_size_eq_zero
   rw [cZ, hs, hzero]
  have h00 : i.size = 0 := by rcases Nat.mul_eq_zero.1 hzero with h | h <;> omega
  simp [Builtin.append_, run_underlying ht, run_underlying hk, sizeOf, typeInfo, zeroValue, hi, hz, asInt, asIntOf, w1, hneg, hby, hne, h0, h63, h48, Question.forced, Builtin.firstCells, newRow, grownCap, hzz, h00]
 ·have hs0 : ¬ (i.size = 0) := fun e => hzero (by rw [e]; simp)
  simp [Builtin.append_, run_underlying ht, run_underlying hk, sizeOf, typeInfo, zeroValue, hi, hz, asInt, asIntOf, w1, hneg, hby, hne, h0, h63, h48, Question.forced, Builtin.firstCells, newRow, grownCap, hs0]
  exact fun e => absurd e hzero
theorem CL {args : Array Operand} {tys : Array TypeId} {t tx el : TypeId} {k : IntKind} {x y : Operand} {i : TypeInfo} {z : Nat} {zs : List D} {d : Pos} {r1 r2 : RX} {Z : X} (ho : o.op = .call { callee := .builtin .append, args := args, argTypes := tys }) (ha : args.toList = [x, y]) (hty : tys.toList = [t, tx]) (hd : o.dst = some d.ix) (hlt : d.ix < nt)
 (hx : rx x = some r1) (hy : rx y = some r2) (hu : P.underlying t = some (.slice el)) (hs : cT P el = some z) (hux : P.underlying tx = some (.int k)) (hz : eC P el = some zs) (hi : P.info? el = some i) (hzl : zs.length = z) (hby : i.bytes <= 65536)
 (h : zU d z zs r1 r2 sl ob nx lg = some Z) : OpOk P nt o (r1.ss ++ r2.ss) ⟨sl, ob, nx, lg⟩ Z := by
 have hargs : args = #[x, y] := by rw [<- Array.toArray_toList (xs := args), ha]
 have htys : tys = #[t, tx] := by rw [<- Array.toArray_toList (xs := tys), hty]
 subst htys
 have hsz : i.size = z := by
  unfold cT at hs
  rw [hi] at hs
  cases hs; rfl
 obtain ⟨zv, hzv, hcd⟩ : ∃ zv, i.zero = some zv /\ gF zv.cells.toList = some zs := by
  unfold eC at hz
  rw [hi] at hz
  simp only at hz
  split at hz
  ·rename_i zv hzv
   exact ⟨zv, hzv, hz⟩
  ·cases hz
 have z2 : ∀ γ w, DVL γ w zs zv.cells.toList := fun γ w => (bR hcd).1
 have z3 : ∀ u ∈ zv.cells.toList, u.oneCell' = true := (bR (γ := ⟨fun _ => 0, fun _ _ => (0, 0), fun _ => False⟩) (w := default) hcd).2
 have zsz : zv.cells.size = z := by
  have := (aK.1 (z2 ⟨fun _ => 0, fun _ _ => (0, 0), fun _ => False⟩ default)).1
  rw [hzl] at this
  simpa using this.symm
 unfold zU at h
 split at h
 ·rename_i m hvx hvy
  cases hb : (Nat.blt 0 m && Nat.ble m 65536) with
  | false => rw [hb] at h; cases h
  | true =>
    rw [hb] at h
    simp only [cond_true] at h
    rw [vF] at h
    rw [Bool.and_eq_true] at hb
    have e1 : 0 < m := Nat.le_of_ble_eq_true hb.1
    have e2 := Nat.le_of_ble_eq_true hb.2
    obtain ⟨lg2, rfl, h7, h8⟩ := eE h
    refine OpOk.value hd hlt h7 (by rw [Pos.succ_nat]; omega) ((Keeps.refl _ _).set h8 _) fun V hss hto ro γ a w g R => ?_
    have hv1 := aB hx hvx R fun s h => hss s (by simp [h])
    unfold DV at hv1
    have hv2 := fT (aB hy hvy R fun s h => hss s (by simp [h]))
    have hso : V.so nx := hto nx h8.tchd
    have hinit : DVL γ w (fQ zs m) (Builtin.zeroCells zv.cells m).toList /\ ∀ u ∈ (Builtin.zeroCells zv.cells m).toList, u.oneCell' = true := by
     unfold Builtin.zeroCells
     exact mI (z2 γ w) z3 (by rw [hzl, zsz])
    have hge := grownCap_ge w m 0 el
    obtain ⟨γ', F, g', hv, hoth, hnx⟩ := rM (P := P) (ds := fQ zs m) (us := (Builtin.zeroCells zv.cells m).toList) (el := el) (k := m) (cap := grownCap w m 0 el) (z := z) g R hso (R.nx nx hso (Nat.le_refl _)) hinit.1 hinit.2 (by simp [cZ, zsz]) hge (rest := Builtin.zeroCells zv.cells (grownCap w m 0 el - m)) (by rw [cZ, zsz])
    have hr := oJ (P := P) w t tx o.type el k i zv hu hux hi hzv m e1 e2 hby (by rw [zsz, hsz])
    refine ⟨_, _, γ', fY ho hargs (by rw [hv1, hv2]; exact hr), F.mono (fun j e => by rw [e]; exact h8), ?_, ?_, ?_, hnx⟩
    ·simpa using g'
    ·simpa using hv
    ·simpa using hoth
 ·cases h
theorem DD {args : Array Operand} {tys : Array TypeId} {t tx el e' : TypeId} {x y : Operand} {i : TypeInfo} {z : Nat} {zs : List D} {d : Pos} {r1 r2 : RX} {Z : X} (ho : o.op = .call { callee := .builtin .append, args := args, argTypes := tys }) (ha : args.toList = [x, y]) (hty : tys.toList = [t, tx]) (hd : o.dst = some d.ix) (hlt : d.ix < nt)
 (hx : rx x = some r1) (hy : rx y = some r2) (hu : P.underlying t = some (.slice el)) (hs : cT P el = some z) (hux : P.underlying tx = some (.slice e')) (hz : eC P el = some zs) (hi : P.info? el = some i) (hzl : zs.length = z) (hby : i.bytes <= 65536)
 (h : dP d z r1 r2 sl ob nx lg = some Z) : OpOk P nt o (r1.ss ++ r2.ss) ⟨sl, ob, nx, lg⟩ Z := by
 have hargs : args = #[x, y] := by rw [<- Array.toArray_toList (xs := args), ha]
 have htys : tys = #[t, tx] := by rw [<- Array.toArray_toList (xs := tys), hty]
 subst htys
 have hsz : i.size = z := by
  unfold cT at hs
  rw [hi] at hs
  cases hs; rfl
 obtain ⟨zv, hzv, zsz⟩ : ∃ zv, i.zero = some zv /\ zv.cells.size = z := by
  unfold eC at hz
  rw [hi] at hz
  simp only at hz
  split at hz
  ·rename_i zv hzv
   refine ⟨zv, hzv, ?_⟩
   have := (aK.1 (bR (γ := ⟨fun _ => 0, fun _ _ => (0, 0), fun _ => False⟩) (w := default) hz).1).1
   rw [hzl] at this
   simpa using this.symm
  ·cases hz
 unfold dP at h
 split at h
 ·rename_i dx dy hvx hvy
  obtain ⟨idy, n, ds, h1, h2, h3⟩ := zX (P := P) (sl := sl) (nx := nx) (lg := lg) h
  obtain ⟨lg1, h4, h5, h6⟩ := zM h1
  cases n with
  | zero =>
    simp only [Nat.zero_mul, List.length_eq_zero_iff] at h2
    subst h2
    -- nothing is appended: the slice as it is
    have keep : ∀ {V : Sel} {γ : Gh} {a : Act} {w : World}, Rep P V γ a w ⟨sl, ob, nx, lg⟩ -> (∀ s, s ∈ r1.ss ++ r2.ss -> V.ss s) -> (∀ j, idy = some j -> V.so j) -> ∀ (ad : Option Addr) (len cap : Nat), a.eval x = .slice ad len cap -> len <= cap -> (ad = none -> len = 0) ->
     (∀ b off, ad = some ⟨b, off, none⟩ -> True) -> (execOp a.eval o).run P w = .ok (.value (.slice ad len cap)) w := by
     intro V γ a w R hss hj ad len cap e hle _ _
     obtain ⟨us, q1, q2, q3, q4⟩ := h3 R hj (aB hy hvy R fun s h => hss s (by simp [h])) hux
     have hus : us = [] := by
      have := (aK.1 q2).1
      exact List.length_eq_zero_iff.1 this.symm
     subst hus
     refine fY ho hargs ?_
     rw [e]
     have hc := q1.cells
     have hl := q1.len
     cases ad with
     | none => simp [Builtin.append_, run_underlying hu, run_underlying hux, sizeOf, typeInfo, hi, hsz, hl, hc, hle]
     | some ad => simp [Builtin.append_, run_underlying hu, run_underlying hux, sizeOf, typeInfo, hi, hsz, hl, hc, hle, storeCells]
    simp only at h4
    split at h4 <;> first | (cases h4; done) | skip
    ·rw [aE h4]
     refine OpOk.pure hd hlt h5 fun V hss hto γ a w R => ?_
     have hv := aB hx hvx R fun s h => hss s (by simp [h])
     unfold DV at hv
     exact ⟨_, keep R hss (fun j e => hto j (h6 j e)) none 0 0 hv (Nat.le_refl _) (fun _ => rfl) (fun _ _ _ => trivial), by unfold DV; rfl⟩
    ·rw [aE h4]
     refine OpOk.pure hd hlt h5 fun V hss hto γ a w R => ?_
     have hv := aB hx hvx R fun s h => hss s (by simp [h])
     unfold DV at hv
     obtain ⟨ad, hv⟩ := hv
     exact ⟨_, keep R hss (fun j e => hto j (h6 j e)) _ 0 0 hv (Nat.le_refl _) (fun _ => rfl) (fun _ _ _ => trivial), by unfold DV; exact ⟨ad, rfl⟩⟩
    ·rename_i id off len st z'
     cases hb : Nat.beq z z' with
     | false => rw [hb] at h4; cases h4
     | true =>
       rw [hb] at h4
       simp only [cond_true] at h4
       split at h4
       ·obtain ⟨lg2, h7, h8, _⟩ := eN h4
        rw [aE h7]
        refine OpOk.pure hd hlt (h5.trans h8) fun V hss hto γ a w R => ?_
        have hv := aB hx hvx R fun s h => hss s (by simp [h])
        obtain ⟨_, _, cap, _, _, e, hle, _⟩ := gT hv
        refine ⟨_, keep R hss (fun j e => hto j (h8.t j (h6 j e))) _ len cap e hle (fun e => by cases e) (fun _ _ _ => trivial), ?_⟩
        rw [<- e]; exact hv
       ·cases h4
  | succ k' =>
    -- onto nothing: a new block
    have fresh : ∀ {Z : X}, (bif Nat.ble (Nat.succ k') 2147483648 then oZ ds fun cs => eK sl ob nx lg1 (.cells false cs 1) d (.sl nx 0 (Nat.succ k') 0 z) else none) = some Z -> (∀ {V : Sel} {γ : Gh} {a : Act} {w : World}, Rep P V γ a w ⟨sl, ob, nx, lg⟩ -> (∀ s, s ∈ r1.ss ++ r2.ss -> V.ss s) -> ∃ ad, a.eval x = .slice ad 0 0) -> OpOk P nt o (r1.ss ++ r2.ss) ⟨sl, ob, nx, lg⟩ Z := by
     intro Z h hbase
     cases hb : Nat.ble (Nat.succ k') 2147483648 with
     | false => rw [hb] at h; cases h
     | true =>
       rw [hb] at h
       simp only [cond_true] at h
       have hk := Nat.le_of_ble_eq_true hb
       rw [gQ] at h
       obtain ⟨lg2, rfl, h7, h8⟩ := eE h
       refine OpOk.value hd hlt (h5.trans h7) (by rw [Pos.succ_nat]; omega) ((Keeps.refl _ _).set h8 _) fun V hss hto ro γ a w g R => ?_
       obtain ⟨ad, e⟩ := hbase R hss
       obtain ⟨us, q1, q2, q3, q4⟩ := h3 R (fun j e => hto j (h7.t j (h6 j e))) (aB hy hvy R fun s h => hss s (by simp [h])) hux
       have hul : us.length = (k' + 1) * z := by rw [<- (aK.1 q2).1, h2]
       have hfc : (Builtin.firstCells i.size 0 (.slice ad 0 0)).run P w.drew = .ok ([] : List Value).toArray w.drew := by
        cases ad with
        | none => exact run_firstCells_none (P := P) w.drew i.size 0 0 0
        | some ad => exact run_firstCells_some (P := P) w.drew i.size 0 ad 0 0 [] (by simp) (fun j u hu => by simp at hu)
       have hprod : (k' + 1) * i.bytes <= 2147483648 * 65536 := Nat.mul_le_mul hk hby
       have hr := run_append_grow_src (P := P) w t tx o.type el i zv hu hi hzv ad 0 0 [] hfc (a.eval y) (k' + 1) us (by rw [hsz]; exact q1) (by omega) (by omega)
        (growslice_fits (by omega) (by rw [Nat.zero_add]; omega))
       simp only [List.nil_append, Nat.zero_add] at hr
       have hge := grownCap_ge w (k' + 1) 0 el
       have hso : V.so nx := hto nx h8.tchd
       obtain ⟨γ', F, g', hv, hoth, hnx⟩ := rM (P := P) (ds := ds) (us := us) (el := el) (k := k' + 1) (cap := grownCap w (k' + 1) 0 el) (z := z) g R hso (R.nx nx hso (Nat.le_refl _)) q2 q4 hul hge (rest := Builtin.zeroCells zv.cells (grownCap w (k' + 1) 0 el - (k' + 1))) (by rw [cZ, zsz])
       exact ⟨_, _, γ', fY ho hargs (by rw [e]; exact hr), F.mono (fun j e => by rw [e]; exact h8), g', hv, hoth, hnx⟩
    simp only at h4
    split at h4 <;> first | (cases h4; done) | skip
    ·exact fresh h4 fun {V γ a w} R hss => by
      have hv := aB hx hvx R fun s h => hss s (by simp [h])
      unfold DV at hv
      exact ⟨none, hv⟩
    ·exact fresh h4 fun {V γ a w} R hss => by
      have hv := aB hx hvx R fun s h => hss s (by simp [h])
      unfold DV at hv
      obtain ⟨ad, hv⟩ := hv
      exact ⟨_, hv⟩
    ·rename_i id off len st z'
     cases hb : (Nat.beq z z' && Nat.ble (Nat.add len (Nat.succ k')) 2147483648) with
     | false => rw [hb] at h4; cases h4
     | true =>
       rw [hb] at h4
       simp only [cond_true] at h4
       rw [Bool.and_eq_true] at hb
       obtain rfl := Nat.eq_of_beq_eq_true hb.1
       have hk : len + (k' + 1) <= 2147483648 := Nat.le_of_ble_eq_true hb.2
       split at h4
       ·rename_i cs cur hob
        obtain ⟨g1, g2, g3⟩ := wA h4
        simp only [bB] at g3
        obtain ⟨lg2, rfl, h7, h8⟩ := rV g3
        refine OpOk.value hd hlt (h5.trans h7) (Nat.le_refl _) ((Keeps.refl _ _).set h8 _) fun V hss hto ro γ a w g R => ?_
        have hso : V.so id := hto id h8.tchd
        have H := R.ob id _ hso hob
        have hv := aB hx hvx R fun s h => hss s (by simp [h])
        obtain ⟨e1, e2, cap, e, n, e3, e4, e5, e6⟩ := gT hv
        obtain ⟨us, q1, q2, q3, q4⟩ := h3 R (fun j e => hto j (h7.t j (h6 j e))) (aB hy hvy R fun s h => hss s (by simp [h])) hux
        have hul : us.length = (k' + 1) * z := by rw [<- (aK.1 q2).1, h2]
        have hcur : cur = γ.cur id := H.2.1.symm
        have hn' : Nat.add off (Nat.mul len z) = off + len * z := rfl
        rw [hn'] at g1 g2 g3
        have hprod : (len + (k' + 1)) * i.bytes <= 2147483648 * 65536 := Nat.mul_le_mul hk hby
        have hnxR : ∀ γ' : Gh, γ'.cur = (γ.push id (0, 0)).cur -> ∀ j, V.so j -> nx.nat <= j.nat -> γ'.cur j = 0 := by
         intro γ' hc j hj hle
         have hne : j ≠ id := by
          rintro rfl
          have := R.nx j hj hle
          omega
         rw [hc, γ.push_cur_ne _ hne]
         exact R.nx j hj hle
        by_cases hroom : len + (k' + 1) <= cap
        ·-- there is room
         have hmul : len * z + (k' + 1) * z <= cap * z := by rw [<- Nat.add_mul]; exact Nat.mul_le_mul_right _ hroom
         obtain ⟨γ', rfl, F, g', H', hc1, hc2⟩ := wR (n := off + len * z) g H e1 (by omega) g1 g2 q2 q4 e5 (by rw [hul]; omega)
         have hoo : off + len * z - (γ.β id st).2 = off - (γ.β id st).2 + len * z := by omega
         rw [hoo] at F g' H' hc1 hc2
         have hr := run_append_room_src (P := P) w t tx o.type el i hu hi (γ.β id st).1 (off - (γ.β id st).2) len cap (a.eval y) (k' + 1) us (by rw [hsz]; exact q1) hroom (by rw [hsz]; exact hc1) (by rw [hsz]; exact hc2)
         rw [hsz] at hr
         refine ⟨_, _, _, fY ho hargs (by rw [e3]; exact hr), F.mono (fun j e => by rw [e]; exact h8), g', ?_, aQ R g F fun _ => H', hnxR _ rfl⟩
         unfold DV
         rw [hcur, γ.push_β, γ.push_cur]
         exact ⟨Nat.lt_succ_self _, e2, cap, e, n, rfl, hroom, F.up.sh _ _ e5, e6⟩
        ·-- a new block
         obtain ⟨olds, k1, k2, k3⟩ := vK (m := len * z) g H e1 e2 rfl g1 g2 q2 q4
         have hfc : (Builtin.firstCells i.size len (.slice (some ⟨(γ.β id st).1, off - (γ.β id st).2, none⟩) len cap)).run P w.drew = .ok olds.toArray w.drew :=
          run_firstCells_some (P := P) w.drew i.size len _ len cap olds (by rw [k1, hsz]) (fun j u hu => by
           rw [Addr.add_mid]; exact k2 j u hu)
         have hr := run_append_grow_src (P := P) w t tx o.type el i zv hu hi hzv (some ⟨(γ.β id st).1, off - (γ.β id st).2, none⟩) len cap olds hfc (a.eval y) (k' + 1) us (by rw [hsz]; exact q1) (by omega) (by omega)
          (growslice_fits (by omega) (by omega))
         have hge := grownCap_ge w (len + (k' + 1)) cap el
         obtain ⟨γ', rfl, F, g', H'⟩ := k3 el (Builtin.zeroCells zv.cells (grownCap w (len + (k' + 1)) cap el - (len + (k' + 1))))
         refine ⟨_, _, _, fY ho hargs (by rw [e3]; exact hr), F.mono (fun j e => by rw [e]; exact h8), g', ?_, aQ R g F fun _ => H', hnxR _ rfl⟩
         unfold DV
         rw [hcur, γ.push_β, γ.push_cur]
         refine ⟨Nat.lt_succ_self _, Nat.le_refl _, grownCap w (len + (k' + 1)) cap el, el, _, ?_, hge, bX (aW w.drew _), ?_⟩
         ·show _ = Value.slice (some ⟨w.heap.size, off - off, none⟩) (len + (k' + 1)) _
          rw [Nat.sub_self]
         ·simp only [Array.size_append, List.size_toArray, List.length_append, k1, hul, cZ, zsz, Nat.sub_self, Nat.zero_add]
          rw [<- Nat.add_mul, <- Nat.add_mul]
          exact Nat.mul_le_mul_right _ (by omega)
       ·cases h4
 ·cases h
end
end Go.Ev
end
