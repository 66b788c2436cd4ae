import Derived.Test.YtihlllachfonoaaGreatDoorEvI
set_option linter.all false
namespace Go.Ev
open Go.RowKit (Below)

/-! ### worlds -/
theorem heap_setCell_self {w : World} {g o : Nat} {vs : Array Value} {e : TypeId} {fr : Nat × Nat} (v : Value) (h : w.heap[g]? = some (.cells vs e fr)) :
    (w.setCell ⟨g, o, none⟩ v).heap[g]? = some (.cells (vs.setIfInBounds o v) e fr) := by
  simp only [World.setCell, Array.getElem?_modify, h]
  simp
theorem heap_setCells_self : ∀ (new : List Value) {w : World} {g o : Nat} {vs : Array Value} {e : TypeId} {fr : Nat × Nat}, w.heap[g]? = some (.cells vs e fr) → o + new.length ≤ vs.size →
    (w.setCells g o new).heap[g]? = some (.cells (splice vs.toList o new).toArray e fr)
  | [], w, g, o, vs, e, fr, h, _ => by rw [World.setCells, h, splice_nil]
  | v :: r, w, g, o, vs, e, fr, h, hle => by
    rw [World.setCells]
    have h1 := heap_setCell_self (o := o) v h
    have hle' : o + 1 + r.length ≤ vs.size := by simp at hle; omega
    rw [heap_setCells_self r h1 (by simp; omega)]
    congr 2
    rw [Array.toList_setIfInBounds]
    rw [splice_cons (by simpa using hle')]
theorem size_setCells : ∀ (new : List Value) (w : World) (g o : Nat), (w.setCells g o new).heap.size = w.heap.size
  | [], _, _, _ => rfl
  | v :: r, w, g, o => by rw [World.setCells, size_setCells r]; simp [World.setCell]
theorem heap_setCells_ne : ∀ (new : List Value) (w : World) (g o : Nat) {k : Nat}, k ≠ g → (w.setCells g o new).heap[k]? = w.heap[k]?
  | [], _, _, _, _, _ => rfl
  | v :: r, w, g, o, k, h => by rw [World.setCells, heap_setCells_ne r _ g _ h]; exact Below.heap_setCell w ⟨g, o, none⟩ v k h
theorem os_setCells : ∀ (new : List Value) (w : World) (g o : Nat), (w.setCells g o new).os = w.os ∧ (w.setCells g o new).tape = w.tape ∧ (w.setCells g o new).output = w.output
  | [], _, _, _ => ⟨rfl, rfl, rfl⟩
  | v :: r, w, g, o => by rw [World.setCells]; exact os_setCells r _ g _
theorem shape_setCells {w : World} {g o : Nat} {vs : Array Value} {e : TypeId} {fr : Nat × Nat} {new : List Value} (h : w.heap[g]? = some (.cells vs e fr)) (hle : o + new.length ≤ vs.size) (c : Nat) (x : TypeId × Nat) (hx : w.shape? c = some x) : (w.setCells g o new).shape? c = some x := by
  by_cases hc : c = g
  · subst hc
    rw [shape_cells h] at hx
    rw [shape_cells (heap_setCells_self new h hle)]
    rw [← hx]
    congr 2
    rw [List.size_toArray, splice_length (by simpa using hle)]
    simp
  · rw [shape_same (heap_setCells_ne new w g o hc)]; exact hx
theorem loop_setCells {w : World} {g o : Nat} {vs : Array Value} {e : TypeId} {fr : Nat × Nat} {new : List Value} (h : w.heap[g]? = some (.cells vs e fr)) (c : Nat) (r : Loop) (hr : w.heap[c]? = some (.loop r)) : ∃ r', (w.setCells g o new).heap[c]? = some (.loop r') := by
  have hc : c ≠ g := by rintro rfl; rw [h] at hr; cases hr
  exact ⟨r, by rw [heap_setCells_ne new w g o hc]; exact hr⟩
theorem splice_at {α : Type} {l new : List α} {o : Nat} (h : o + new.length ≤ l.length) (i : Nat) : (splice l o new)[i]? = if i < o then l[i]? else if i < o + new.length then new[i - o]? else l[i]? := by
  unfold splice
  by_cases h1 : i < o
  · rw [if_pos h1, List.append_assoc, List.getElem?_append_left (by simp; omega), List.getElem?_take_of_lt h1]
  · rw [if_neg h1]
    by_cases h2 : i < o + new.length
    · rw [if_pos h2, List.append_assoc, List.getElem?_append_right (by simp; omega), List.getElem?_append_left (by simp; omega)]
      congr 1; simp; omega
    · rw [if_neg h2, List.append_assoc, List.getElem?_append_right (by simp; omega), List.getElem?_append_right (by simp; omega), List.getElem?_drop]
      congr 1; simp; omega

section
variable {P : Program} {V : Sel} {γ : Gh} {a : Act} {w : World} {sl : T D} {ob : T C} {nx : Pos} {lg : Option (T Bool)} {nt : Nat} {o : Oper} {ro : Option Nat}

/-- One cell of an object. -/
theorem cell_at {id : Pos} {r : Bool} {cs : List Cell} {cur st p : Nat} {c : Cell} (H : HoldsO P γ w id (.cells r cs cur)) (hst : st < γ.cur id) (hp : cs[p]? = some c) (hh : c.has st = true) (hd : (γ.β id st).2 ≤ p) :
    ∃ u, w.cell? ⟨(γ.β id st).1, p - (γ.β id st).2, none⟩ = some u ∧ DV γ w c.d u ∧ u.oneCell' = true := by
  obtain ⟨_, h1, h2⟩ := H
  obtain ⟨vs, e, fr, h3, _, h4⟩ := h2 st (by omega)
  obtain ⟨u, h5, h6, h7⟩ := h4 p c hp hh hd
  exact ⟨u, by simp [World.cell?, h3, h5], h6, h7⟩
/-- So many cells in a row. -/
theorem cells_at {id : Pos} {r : Bool} {cs : List Cell} {cur st off n : Nat} {ds : List D} (H : HoldsO P γ w id (.cells r cs cur)) (hst : st < γ.cur id) (hd : (γ.β id st).2 ≤ off) (hn : ds.length = n)
    (hds : ∀ (i : Nat) d, ds[i]? = some d → ∃ c, (cs.drop off)[i]? = some c ∧ c.has st = true ∧ c.d = d) :
    ∃ us : List Value, us.length = n ∧ w.rangeAt (γ.β id st).1 (off - (γ.β id st).2) us ∧ DVL γ w ds us ∧ ∀ u ∈ us, u.oneCell' = true := by
  induction ds generalizing off n with
  | nil => exact ⟨[], by simpa using hn, fun j v hv => by simp at hv, DVL.nil, by simp⟩
  | cons d ds ih =>
    subst hn
    obtain ⟨c, h1, h2, h3⟩ := hds 0 d rfl
    rw [List.getElem?_drop, Nat.add_zero] at h1
    obtain ⟨u, e1, e2, e3⟩ := cell_at H hst h1 h2 hd
    obtain ⟨us, e4, e5, e6, e7⟩ := ih (off := off + 1) (n := ds.length) (by omega) rfl (fun i d' hi => by
      obtain ⟨c', h4, h5⟩ := hds (i + 1) d' (by simpa using hi)
      refine ⟨c', ?_, h5⟩
      rw [List.getElem?_drop] at h4 ⊢
      rw [show off + 1 + i = off + (i + 1) by omega]; exact h4)
    refine ⟨u :: us, by simp [e4], fun j v hv => ?_, DVL.cons (by rw [← h3]; exact e2) e6, fun x hx => ?_⟩
    · cases j with
      | zero => simp at hv; subst hv; exact e1
      | succ j =>
        have := e5 j v (by simpa using hv)
        rw [show off + 1 - (γ.β id st).2 + j = off - (γ.β id st).2 + (j + 1) by omega] at this
        exact this
    · rcases List.mem_cons.1 hx with rfl | hx
      · exact e3
      · exact e7 x hx

theorem run_loadVar_row' {t : TypeId} {n : Nat} (h1 : isRow P t = some true) (h2 : szOf P t = some n) {b o : Nat} {vs : List Value} (hv : w.rangeAt b o vs) (hn : vs.length = n) :
    (loadVar t ⟨b, o, none⟩).run P w = .ok (.agg vs.toArray) w := by
  subst hn
  have hl : (loadCells ⟨b, o, none⟩ vs.length).run P w = .ok vs.toArray w :=
    run_loadCells_list (P := P) w ⟨b, o, none⟩ vs (fun j v hj => by rw [Addr.add_mid]; exact hv j v hj)
  simp only [loadVar, Sem.run_bind, run_isAgg h1, Result.andThen_ok, if_true, run_sizeOf' h2, hl]
  rfl
theorem run_loadVar_one {t : TypeId} (h1 : isRow P t = some false) {ad : Addr} {v : Value} (hv : w.cell? ad = some v) :
    (loadVar t ad).run P w = .ok v w := by
  simp [loadVar, Sem.run_bind, run_isAgg h1, hv]
theorem run_storeVar' {t : TypeId} {b o : Nat} {v : Value} (h2 : szOf P t = some v.cells.size) (ht : w.there b o v.cells.size) (h1 : ∀ u ∈ v.cells.toList, u.oneCell' = true) :
    (storeVar t ⟨b, o, none⟩ v).run P w = .ok () (w.setCells b o v.cells.toList) := by
  have := run_storeCells_cells (P := P) b o v.cells.toList 0 w (fun j hj => by simpa using (ht j (by simpa using hj)).1) (fun j hj => by simpa using (ht j (by simpa using hj)).2) h1
  simp only [Nat.add_zero] at this
  simp [storeVar, run_sizeOf' h2, this]
theorem run_load' {t : TypeId} {x : Operand} (ho : o.op = .load t x) {ad : Addr} (hx : a.eval x = .pointer (some ad)) {u : Value} (hl : (loadVar t ad).run P w = .ok u w) :
    (execOp a.eval o).run P w = .ok (.value u) w := by
  simp [execOp, ho, hx, Instr.loadAt, Instr.sureAddr, hl]
theorem run_store' {t : TypeId} {x y : Operand} (ho : o.op = .store t x y) {w' : World} {ad : Addr} (hx : a.eval x = .pointer (some ad)) (hl : (storeVar t ad (a.eval y)).run P w = .ok () w') :
    (execOp a.eval o).run P w = .ok .skip w' := by
  simp [execOp, ho, hx, Instr.storeAt, Instr.sureAddr, hl]

theorem ld1_ok {t : TypeId} {x : Operand} {d : Pos} {r : RX} {Z : X} (ho : o.op = .load t x) (hd : o.dst = some d.ix) (hlt : d.ix < nt) (hx : rx x = some r) (ht : isRow P t = some false) (h : s_ld1 d r sl ob nx lg = some Z) : OpOk P nt o r.ss ⟨sl, ob, nx, lg⟩ Z := by
  unfold s_ld1 at h
  split at h
  · rename_i id off st hv
    split at h
    · rename_i q cs cur hob
      split at h
      · rename_i c hc
        obtain ⟨h1, h2⟩ := cellK_ok h
        obtain ⟨lg', h3, h4, h5⟩ := logR_ok h2
        rw [outK_eq h3]
        rw [nthC_eq] at hc
        refine OpOk.pure hd hlt h4 fun V hs hto γ a w R => ?_
        obtain ⟨e1, e2, e3⟩ := DV_pt (opd_ok hx hv R hs)
        obtain ⟨u, e4, e5, e6⟩ := cell_at (R.ob id _ (hto id h5) hob) e1 hc h1 e2
        exact ⟨u, run_load' ho e3 (run_loadVar_one ht e4), e5⟩
      · cases h
    · cases h
  · rename_i r' k hv
    split at h
    · rename_i v hc
      rw [outK_eq h]
      rw [nthC_eq] at hc
      refine OpOk.pure hd hlt (LgLe.refl _) fun V hs hto γ a w R => ?_
      obtain ⟨b, q, vs, e, fr, k1, k2, e3, k4, k5, k6⟩ := DV_pl (opd_ok hx hv R hs)
      obtain ⟨l1, l2⟩ := DVL_iff.1 k5
      have hlt : k < r'.length := (List.getElem?_eq_some_iff.1 hc).1
      have hq : q + k < vs.size := by omega
      refine ⟨vs[q + k], run_load' ho e3 (run_loadVar_one ht ?_), l2 k _ _ hc ?_⟩
      · unfold World.cell?
        simp [k2, hq]
      · rw [List.getElem?_take_of_lt hlt, List.getElem?_drop]
        simp [hq]
    · cases h
  · cases h
theorem ldn_ok {t : TypeId} {x : Operand} {n : Nat} {d : Pos} {r : RX} {Z : X} (ho : o.op = .load t x) (hd : o.dst = some d.ix) (hlt : d.ix < nt) (hx : rx x = some r) (ht : isRow P t = some true) (hn : szOf P t = some n) (h : s_ldn d r n sl ob nx lg = some Z) : OpOk P nt o r.ss ⟨sl, ob, nx, lg⟩ Z := by
  unfold s_ldn at h
  split at h
  · rename_i id off st hv
    split at h
    · rename_i q cs cur hob
      obtain ⟨ds, h1, h2, h6⟩ := readK_ok h
      obtain ⟨lg', h3, h4, h5⟩ := logR_ok h1
      rw [outK_eq h3]
      rw [dropC_eq] at h6
      refine OpOk.pure hd hlt h4 fun V hs hto γ a w R => ?_
      obtain ⟨e1, e2, e3⟩ := DV_pt (opd_ok hx hv R hs)
      obtain ⟨us, e4, e5, e6, e7⟩ := cells_at (R.ob id _ (hto id h5) hob) e1 e2 h2 h6
      refine ⟨.agg us.toArray, run_load' ho e3 (run_loadVar_row' ht hn e5 e4), ?_⟩
      unfold DV
      exact ⟨_, rfl, e6, e7⟩
    · cases h
  · rename_i r' k hv
    obtain ⟨h1, h2⟩ := takeK_ok h
    rw [dropC_eq] at h1 h2
    rw [outK_eq h2]
    refine OpOk.pure hd hlt (LgLe.refl _) fun V hs hto γ a w R => ?_
    obtain ⟨b, q, vs, e, fr, k1, k2, e3, k4, k5, k6⟩ := DV_pl (opd_ok hx hv R hs)
    simp only [List.length_drop] at h1
    have l1 := (k5.drop k).take n
    have hsub : (((vs.toList.drop q).take r'.length).drop k).take n = (vs.toList.drop (q + k)).take n := by
      rw [List.drop_take, List.take_take, List.drop_drop]
      rw [Nat.min_def]
      split
      · rfl
      · have : n = 0 := by omega
        omega
    refine ⟨.agg ((vs.toList.drop (q + k)).take n).toArray, run_load' ho e3 (run_loadVar_row' ht hn (fun j u hu => ?_) ?_), ?_⟩
    · have hj : j < n := by have := (List.getElem?_eq_some_iff.1 hu).1; simp at this; omega
      rw [List.getElem?_take_of_lt hj, List.getElem?_drop] at hu
      unfold World.cell?
      simp [k2] at hu ⊢
      rw [← hu]
    · simp; omega
    · unfold DV
      refine ⟨_, rfl, ?_, fun u hu => ?_⟩
      · rw [hsub] at l1; simpa using l1
      · refine k6 u ?_
        rw [← hsub] at hu
        simp only [List.toList_toArray] at hu
        exact List.mem_of_mem_drop (List.mem_of_mem_take hu)
  · cases h

/-- New cells at a stamp: what the object holds behind it. -/
theorem write_hold {id : Pos} {cs : List Cell} {cur st off : Nat} {mk : D → Cell} {new : List D} {nv : List Value} (g : G ro γ a w) (H : HoldsO P γ w id (.cells false cs cur)) (hst : st < γ.cur id) (hd : (γ.β id st).2 ≤ off) (hpos : 0 < new.length)
    (hle : off + new.length ≤ cs.length) (hsee : ∀ i, i < new.length → ∃ c, cs[off + i]? = some c ∧ c.has st = true) (hnv : DVL γ w new nv) (h1 : ∀ u ∈ nv, u.oneCell' = true)
    (hmk : (mk = (fun d => .o d st) ∧ st + 1 = cur) ∨ mk = (fun d => .c d st st)) :
    ∃ vs e, w.heap[(γ.β id st).1]? = some (.cells vs e (0, 0)) ∧ off - (γ.β id st).2 + nv.length ≤ vs.size ∧
      (Fr (fun j => j = id) γ γ w (w.setCells (γ.β id st).1 (off - (γ.β id st).2) nv) ∧ (∀ a' : Act, a'.defers = a.defers → G ro γ a' (w.setCells (γ.β id st).1 (off - (γ.β id st).2) nv)) ∧
        HoldsO P γ (w.setCells (γ.β id st).1 (off - (γ.β id st).2) nv) id (.cells false (cs.take off ++ (new.map mk ++ cs.drop (off + new.length))) cur)) := by
  obtain ⟨h2, h3, h4⟩ := H
  obtain ⟨vs, e, fr, h5, h6, h7⟩ := h4 st (by omega)
  obtain rfl := h6 rfl
  have hnl : nv.length = new.length := (DVL_iff.1 hnv).1.symm
  have hroom : off - (γ.β id st).2 + nv.length ≤ vs.size := by
    obtain ⟨c, hc, hh⟩ := hsee (new.length - 1) (by omega)
    obtain ⟨u, h8, _⟩ := h7 _ c hc hh (by omega)
    have := (Array.getElem?_eq_some_iff.1 h8).1
    omega
  obtain ⟨F, g'⟩ := same_all (w' := w.setCells (γ.β id st).1 (off - (γ.β id st).2) nv) g id (by rw [size_setCells]; exact Nat.le_refl _)
    (fun c hc hn => heap_setCells_ne nv w _ _ (fun e => hn st hst e.symm)) (shape_setCells h5 hroom) (loop_setCells h5) (os_setCells nv w _ _) (fun x => World.frozen?_setCells _ _ _ _ x)
  refine ⟨vs, e, h5, hroom, F, g', h2, h3, fun s hs => ?_⟩
  obtain ⟨vs2, e2, fr2, k1, k2, k3⟩ := h4 s hs
  have hs' : s < γ.cur id := by omega
  -- the new list, by places
  have hat : ∀ p, (cs.take off ++ (new.map mk ++ cs.drop (off + new.length)))[p]? = if p < off then cs[p]? else if p < off + new.length then (new[p - off]?).map mk else cs[p]? := by
    intro p
    have := splice_at (l := cs) (new := new.map mk) (o := off) (by simpa using hle) p
    unfold splice at this
    rw [List.append_assoc] at this
    simpa using this
  by_cases hb : (γ.β id s).1 = (γ.β id st).1
  · have hδ : (γ.β id s).2 = (γ.β id st).2 := (g.inj id s id st hs' hst hb).2
    rw [hb, h5] at k1
    cases k1
    refine ⟨_, e, (0, 0), by rw [hb]; exact heap_setCells_self nv h5 hroom, fun _ => rfl, fun p c hp hh hdp => ?_⟩
    rw [hat] at hp
    rw [hδ] at hdp k3 ⊢
    have hsp : (splice vs.toList (off - (γ.β id st).2) nv).toArray[p - (γ.β id st).2]? = (splice vs.toList (off - (γ.β id st).2) nv)[p - (γ.β id st).2]? := by simp
    rw [hsp, splice_at (by simpa using hroom)]
    by_cases hp1 : p < off
    · rw [if_pos hp1] at hp
      rw [if_pos (by omega)]
      obtain ⟨u, q1, q2, q3⟩ := k3 p c hp hh hdp
      exact ⟨u, by simpa using q1, DV.mono F.up _ _ q2, q3⟩
    · rw [if_neg hp1] at hp
      rw [if_neg (by omega)]
      by_cases hp2 : p < off + new.length
      · rw [if_pos hp2] at hp
        rw [if_pos (by omega)]
        cases hd2 : new[p - off]? with
        | none => rw [hd2] at hp; cases hp
        | some d =>
          rw [hd2] at hp
          cases hp
          have hlt : p - off < nv.length := by have := (List.getElem?_eq_some_iff.1 hd2).1; omega
          refine ⟨nv[p - off], by rw [show p - (γ.β id st).2 - (off - (γ.β id st).2) = p - off by omega]; exact List.getElem?_eq_getElem hlt, ?_, h1 _ (List.getElem_mem _)⟩
          have := (DVL_iff.1 hnv).2 (p - off) d _ hd2 (List.getElem?_eq_getElem hlt)
          rcases hmk with ⟨rfl, _⟩ | rfl <;> exact DV.mono F.up _ _ this
      · rw [if_neg hp2] at hp
        rw [if_neg (by omega)]
        obtain ⟨u, q1, q2, q3⟩ := k3 p c hp hh hdp
        exact ⟨u, by simpa using q1, DV.mono F.up _ _ q2, q3⟩
  · refine ⟨vs2, e2, fr2, by rw [heap_setCells_ne nv w _ _ hb]; exact k1, k2, fun p c hp hh hdp => ?_⟩
    rw [hat] at hp
    by_cases hp1 : p < off
    · rw [if_pos hp1] at hp
      obtain ⟨u, q1, q2, q3⟩ := k3 p c hp hh hdp
      exact ⟨u, q1, DV.mono F.up _ _ q2, q3⟩
    · rw [if_neg hp1] at hp
      by_cases hp2 : p < off + new.length
      · rw [if_pos hp2] at hp
        exfalso
        apply hb
        have : s = st := by
          cases hd2 : new[p - off]? with
          | none => rw [hd2] at hp; cases hp
          | some d =>
            rw [hd2] at hp
            cases hp
            rcases hmk with ⟨rfl, hc⟩ | rfl
            · have := Nat.le_of_ble_eq_true hh
              omega
            · have hh : (Nat.ble st s && Nat.ble s st) = true := hh
              rw [Bool.and_eq_true] at hh
              have := Nat.le_of_ble_eq_true hh.1
              have := Nat.le_of_ble_eq_true hh.2
              omega
        rw [this]
      · rw [if_neg hp2] at hp
        obtain ⟨u, q1, q2, q3⟩ := k3 p c hp hh hdp
        exact ⟨u, q1, DV.mono F.up _ _ q2, q3⟩

theorem objK_eq {id : Pos} {c : C} {Z : X} (h : objK sl ob nx lg id c = some Z) : ∃ lg', Z = ⟨sl, T.set id c ob, nx, lg'⟩ ∧ LgLe lg lg' ∧ wrtn lg' id := by
  unfold objK at h
  obtain ⟨lg', h1, h2, h3⟩ := logW_ok h
  rw [T.setK_eq] at h1
  cases h1
  exact ⟨lg', rfl, h2, h3⟩
theorem objOutK_eq {id : Pos} {c : C} {d : Pos} {v : D} {Z : X} (h : objOutK sl ob nx lg id c d v = some Z) : ∃ lg', Z = ⟨T.set d v sl, T.set id c ob, nx, lg'⟩ ∧ LgLe lg lg' ∧ wrtn lg' id := by
  unfold objOutK at h
  obtain ⟨lg', h1, h2, h3⟩ := logW_ok h
  rw [T.setK_eq] at h1
  exact ⟨lg', outK_eq h1, h2, h3⟩

theorem st_ok {t : TypeId} {x y : Operand} {n : Nat} {r1 r2 : RX} {Z : X} (ho : o.op = .store t x y) (hd : o.dst = none) (hx : rx x = some r1) (hy : rx y = some r2) (hn : szOf P t = some (n + 1)) (h : s_st r1 r2 (n + 1) sl ob nx lg = some Z) : OpOk P nt o (r1.ss ++ r2.ss) ⟨sl, ob, nx, lg⟩ Z := by
  unfold s_st at h
  split at h
  · rename_i id off st v hv hw
    split at h
    · rename_i cs cur ds hob hds
      cases hb : Nat.beq ds.length (n + 1) with
      | false => rw [hb] at h; cases h
      | true =>
        rw [hb] at h
        simp only [cond_true] at h
        have hdn := Nat.eq_of_beq_eq_true hb
        have key : ∀ mk : D → Cell, ((mk = (fun d => .o d st) ∧ st + 1 = cur) ∨ mk = (fun d => .c d st st)) → writeK st mk ds off cs (fun cs => objK sl ob nx lg id (.cells false cs cur)) = some Z → OpOk P nt o (r1.ss ++ r2.ss) ⟨sl, ob, nx, lg⟩ Z := by
          intro mk hmk h
          obtain ⟨h1, h2, h3⟩ := writeK_ok h
          obtain ⟨lg', rfl, h4, h5⟩ := objK_eq h2
          refine OpOk.skip hd h4 ((Keeps.refl _ _).set h5 _) fun V hs hto ro γ a w g R => ?_
          obtain ⟨e1, e2, e3⟩ := DV_pt (opd_ok hx hv R fun s h => hs s (by simp [h]))
          obtain ⟨c1, c2⟩ := cellsD_ok (opd_ok hy hw R fun s h => hs s (by simp [h])) hds
          have hvl : (a.eval y).cells.size = n + 1 := by have := (DVL_iff.1 c1).1; simp at this; omega
          obtain ⟨vs, e, q1, q2, F, g', H'⟩ := write_hold g (R.ob id _ (hto id h5.tchd) hob) e1 e2 (by omega) h1 h3 c1 c2 hmk
          have hsv := run_storeVar' (P := P) (t := t) (w := w) (b := (γ.β id st).1) (o := off - (γ.β id st).2) (v := a.eval y) (by rw [hn, hvl]) (fun j hj => by
            have hj2 : off - (γ.β id st).2 + j < vs.size := by simp at q2; omega
            exact ⟨by simp [World.cell?, q1, hj2], by simp [World.frozen?, q1]⟩) c2
          exact ⟨_, .inl (run_store' ho e3 hsv), F.mono (fun j e => by rw [e]; exact h5), g', others_hold R g F fun _ => H'⟩
        cases hb2 : Nat.beq (Nat.succ st) cur with
        | true =>
          rw [hb2] at h
          exact key _ (.inl ⟨rfl, Nat.eq_of_beq_eq_true hb2⟩) h
        | false =>
          rw [hb2] at h
          exact key _ (.inr rfl) h
    · cases h
  · cases h
end
end Go.Ev

namespace Go.Ev
open Go.RowKit (Below)

section
variable {P : Program} {V : Sel} {γ : Gh} {a : Act} {w : World} {sl : T D} {ob : T C} {nx : Pos} {lg : Option (T Bool)} {nt : Nat} {o : Oper} {ro : Option Nat}

theorem logO_ok {id : Option Pos} {k : Option (T Bool) → Option X} {Z : X} (h : logO lg id k = some Z) : ∃ lg', k lg' = some Z ∧ LgLe lg lg' ∧ ∀ j, id = some j → tchd lg' j := by
  cases id with
  | none => exact ⟨lg, h, LgLe.refl _, fun j e => by cases e⟩
  | some i =>
    obtain ⟨lg', h1, h2, h3⟩ := logR_ok h
    exact ⟨lg', h1, h2, fun j e => by cases e; exact h3⟩

/-- What a slice that is copied from has. -/
theorem srcK_ok {z : Nat} {y : D} {k : Option Pos → Nat → List D → Option X} {Z : X} (h : srcK ob z y k = some Z) :
    ∃ idy n ds, k idy n ds = some Z ∧ ds.length = n * z ∧ ∀ {V : Sel} {γ : Gh} {a : Act} {w : World} {v : Value}, Rep P V γ a w ⟨sl, ob, nx, lg⟩ → (∀ j, idy = some j → V.so j) → DV γ w y v → ∀ {tx e' : TypeId}, P.underlying tx = some (.slice e') →
      ∃ us : List Value, Src P z tx v n us w ∧ DVL γ w ds us ∧ (∃ ad cap, v = .slice ad n cap) ∧ ∀ u ∈ us, u.oneCell' = true := by
  unfold srcK at h
  split at h
  · refine ⟨none, 0, [], h, by simp, fun {V γ a w v} R _ hv {tx e'} hu => ⟨[], ?_, DVL.nil, ?_, by simp⟩⟩
    · unfold DV at hv; subst hv; exact Src.ofNil w hu 0
    · unfold DV at hv; exact ⟨none, 0, hv⟩
  · refine ⟨none, 0, [], h, by simp, fun {V γ a w v} R _ hv {tx e'} hu => ?_⟩
    unfold DV at hv
    obtain ⟨ad, rfl⟩ := hv
    exact ⟨[], Src.ofSlice w hu ad 0 0 [] (by simp) (by simp) (by simp), DVL.nil, ⟨_, _, rfl⟩, by simp⟩
  · rename_i id off len st z'
    cases hb : Nat.beq z z' with
    | false => rw [hb] at h; cases h
    | true =>
      rw [hb] at h
      simp only [cond_true] at h
      obtain rfl := Nat.eq_of_beq_eq_true hb
      split at h
      · rename_i q cs cur hob
        obtain ⟨ds, h1, h2, h3⟩ := readK_ok h
        rw [dropC_eq] at h3
        refine ⟨some id, len, ds, h1, h2, fun {V γ a w v} R hj hv {tx e'} hu => ?_⟩
        obtain ⟨e1, e2, cap, e, n, rfl, e4, e5, e6⟩ := DV_sl hv
        obtain ⟨us, q1, q2, q3, q4⟩ := cells_at (R.ob id _ (hj id rfl) hob) e1 e2 h2 h3
        refine ⟨us, Src.ofSlice w hu ⟨_, _, none⟩ len cap us q1 (fun j u hu => by rw [Addr.add_mid]; exact q2 j u hu) q4, q3, ⟨_, _, rfl⟩, q4⟩
      · cases h
  · rename_i z' es
    cases hb : (Nat.beq z z' && Nat.beq (List.length (List.flatten es)) (Nat.mul (List.length es) z)) with
    | false => rw [hb] at h; cases h
    | true =>
      rw [hb] at h
      simp only [cond_true] at h
      rw [Bool.and_eq_true] at hb
      obtain rfl := Nat.eq_of_beq_eq_true hb.1
      have hlen : es.flatten.length = es.length * z := Nat.eq_of_beq_eq_true hb.2
      refine ⟨none, es.length, es.flatten, h, hlen, fun {V γ a w v} R _ hv {tx e'} hu => ?_⟩
      obtain ⟨p, cap, rfl, e4, e6, e5⟩ := DV_lst hv
      rcases e5 with rfl | ⟨b, o, vs, e, fr, k1, k2, rfl, k4, k5, k6⟩
      · cases p with
        | none =>
          obtain rfl := e6 rfl
          exact ⟨[], Src.ofNil w hu 0, DVL.nil, ⟨_, _, rfl⟩, by simp⟩
        | some ad => exact ⟨[], Src.ofSlice w hu ad 0 cap [] (by simp) (by simp) (by simp), DVL.nil, ⟨_, _, rfl⟩, by simp⟩
      · have hl2 : ((vs.toList.drop o).take (es.length * z)).length = es.length * z := by simp; omega
        refine ⟨(vs.toList.drop o).take (es.length * z), Src.ofSlice w hu ⟨b, o, none⟩ es.length cap _ hl2 (fun j u hu => ?_) k6, DVE_flat k5, ⟨_, _, rfl⟩, k6⟩
        have hj : j < es.length * z := by have := (List.getElem?_eq_some_iff.1 hu).1; rw [hl2] at this; exact this
        rw [List.getElem?_take_of_lt hj, List.getElem?_drop] at hu
        rw [Addr.add_mid]
        unfold World.cell?
        simp [k2] at hu ⊢
        exact hu
  · cases h

/-- A new block for what grew. -/
theorem grow_new (g : G ro γ a w) (id : Pos) (δ : Nat) (obj : Obj) (hobj : ∀ vs e fr, obj = .cells vs e fr → fr = (0, 0)) : Fr (fun j => j = id) γ (γ.push id (w.heap.size, δ)) w (w.drew.alloc obj) ∧ ∀ a' : Act, a'.defers = a.defers → G ro (γ.push id (w.heap.size, δ)) a' (w.drew.alloc obj) :=
  push_all g id w.heap.size δ (by rw [size_alloc']; show _ ≤ w.heap.size + 1; omega) (.inl ⟨Nat.le_refl _, by rw [size_alloc']; show _ < w.heap.size + 1; omega⟩) (fun c hc _ => heap_alloc_lt w.drew obj hc)
    (fun c x hx => by rw [shape_same (heap_alloc_lt w.drew obj (shape_lt hx))]; exact hx)
    (fun c r hr => ⟨r, by rw [heap_alloc_lt w.drew obj (Array.getElem?_eq_some_iff.1 hr).1]; exact hr⟩) ⟨rfl, rfl, rfl⟩ (fun x => frozen_alloc w.drew obj hobj x)

theorem run_builtin {b : Builtin} {args : Array Operand} {tys : Array TypeId} (ho : o.op = .call { callee := .builtin b, args := args, argTypes := tys }) (a : Act) (w : World) :
    ∃ cs, (execOp a.eval o).run P w = (builtin b tys o.type cs (args.map a.eval)).run P w := by
  exact ⟨args.map fun | .const _ => true | _ => false, by
    simp only [execOp, ho, resolve, Sem.run_bind, Sem.run_pure, Result.andThen_ok, invoke]
    congr⟩
theorem run_append {args : Array Operand} {t tx : TypeId} {x y : Operand} (ho : o.op = .call { callee := .builtin .append, args := args, argTypes := #[t, tx] }) (ha : args = #[x, y]) {v : Value} {w' : World}
    (h : (Builtin.append_ #[t, tx] o.type #[a.eval x, a.eval y]).run P w = .ok v w') : (execOp a.eval o).run P w = .ok (.value v) w' := by
  subst ha
  obtain ⟨cs, h1⟩ := run_builtin (P := P) ho a w
  rw [h1]
  simp [builtin, h]

/-- A slice over a block that grew, at its own stamp. -/
theorem fresh_rows {ds : List D} {us : List Value} {el : TypeId} {k cap z : Nat} (g : G ro γ a w) (R : Rep P V γ a w ⟨sl, ob, nx, lg⟩) (hso : V.so nx) (h0 : γ.cur nx = 0) (hds : DVL γ w ds us) (h1 : ∀ u ∈ us, u.oneCell' = true) (hk : us.length = k * z) (hcap : k ≤ cap)
    {rest : Array Value} (hrest : rest.size = (cap - k) * z) :
    ∃ γ', Fr (fun j => j = nx) γ γ' w (w.drew.alloc (.cells (us.toArray ++ rest) el)) ∧ (∀ a' : Act, a'.defers = a.defers → G ro γ' a' (w.drew.alloc (.cells (us.toArray ++ rest) el))) ∧
      DV γ' (w.drew.alloc (.cells (us.toArray ++ rest) el)) (.sl nx 0 k 0 z) (.slice (some ⟨w.heap.size, 0, none⟩) k cap) ∧
      (∀ id c, V.so id → (T.set nx (.cells false (ds.map fun d => .o d 0) 1) ob).get id = some c → HoldsO P γ' (w.drew.alloc (.cells (us.toArray ++ rest) el)) id c) ∧ (∀ id, V.so id → nx.succ.nat ≤ id.nat → γ'.cur id = 0) := by
  obtain ⟨F, g'⟩ := grow_new g nx 0 (.cells (us.toArray ++ rest) el) (fun vs e fr h => by cases h; rfl)
  have hb := γ.push_β nx (w.heap.size, 0)
  rw [h0] at hb
  have hcur : (γ.push nx (w.heap.size, 0)).cur nx = 1 := by rw [γ.push_cur, h0]
  have hh : (w.drew.alloc (.cells (us.toArray ++ rest) el)).heap[w.heap.size]? = some (.cells (us.toArray ++ rest) el) := heap_alloc_self w.drew _
  refine ⟨_, F, g', ?_, others_hold R g F fun _ => ?_, fun id hid hle => ?_⟩
  · unfold DV
    rw [hb, hcur]
    refine ⟨Nat.one_pos, Nat.le_refl _, cap, el, _, rfl, hcap, shape_cells hh, ?_⟩
    simp only [Array.size_append, List.size_toArray, hk, hrest, Nat.sub_zero, Nat.zero_add]
    rw [← Nat.add_mul]
    exact Nat.mul_le_mul_right _ (by omega)
  · refine ⟨Nat.one_pos, hcur, fun st hst => ?_⟩
    obtain rfl : st = 0 := by omega
    rw [hb]
    refine ⟨_, el, (0, 0), hh, fun _ => rfl, fun p c hp _ _ => ?_⟩
    rw [List.getElem?_map] at hp
    cases hd : ds[p]? with
    | none => rw [hd] at hp; cases hp
    | some d =>
      rw [hd] at hp
      cases hp
      obtain ⟨h2, h3⟩ := DVL_iff.1 hds
      have hlt : p < us.length := by have := (List.getElem?_eq_some_iff.1 hd).1; omega
      refine ⟨us[p], ?_, DV.mono F.up _ _ (h3 p d _ hd (List.getElem?_eq_getElem hlt)), h1 _ (List.getElem_mem _)⟩
      rw [Nat.sub_zero, Array.getElem?_append_left (by simpa using hlt)]
      simp [hlt]
  · rw [Pos.succ_nat] at hle
    have hne : id ≠ nx := by rintro rfl; omega
    rw [γ.push_cur_ne _ hne]
    exact R.nx id hid (by show nx.nat ≤ id.nat; omega)

theorem zeroCells_size (z : Array Value) (n : Nat) : (Builtin.zeroCells z n).size = n * z.size := by simp [Builtin.zeroCells]
theorem nextslicecap_zero' {n : Nat} : Builtin.nextslicecap n 0 ≤ n ∨ n = 0 := by
  unfold Builtin.nextslicecap
  by_cases h : n > 2 * 0
  · rw [if_pos h]; exact .inl (Nat.le_refl _)
  · exact .inr (by omega)

/-- append: what has grown, at a new stamp: in its own block. -/
theorem append_room {id : Pos} {cs : List Cell} {cur st n : Nat} {ds : List D} {us : List Value} (g : G ro γ a w) (H : HoldsO P γ w id (.cells false cs cur)) (hst : st < γ.cur id) (hd : (γ.β id st).2 ≤ n) (hn : n ≤ cs.length) (hop : OpenTo st (cs.take n))
    (hds : DVL γ w ds us) (h1 : ∀ u ∈ us, u.oneCell' = true) {e : TypeId} {sz : Nat} (hsh : w.shape? (γ.β id st).1 = some (e, sz)) (hroom : n - (γ.β id st).2 + us.length ≤ sz) :
    ∃ γ', γ' = γ.push id (γ.β id st) ∧ Fr (fun j => j = id) γ γ' w (w.setCells (γ.β id st).1 (n - (γ.β id st).2) us) ∧ (∀ a' : Act, a'.defers = a.defers → G ro γ' a' (w.setCells (γ.β id st).1 (n - (γ.β id st).2) us)) ∧
      HoldsO P γ' (w.setCells (γ.β id st).1 (n - (γ.β id st).2) us) id (.cells false (cs.take n ++ (ds.map (fun d => .o d cur) ++ (cs.drop (n + ds.length)).map (shutC (cur - 1)))) (cur + 1)) ∧
      (∀ j, j < us.length → (w.cell? ⟨(γ.β id st).1, n - (γ.β id st).2 + j, none⟩).isSome = true) ∧ (∀ j, j < us.length → w.frozen? ⟨(γ.β id st).1, n - (γ.β id st).2 + j, none⟩ = false) := by
  obtain ⟨h2, h3, h4⟩ := H
  obtain ⟨vs, e', fr, h5, h6, h7⟩ := h4 st (by omega)
  obtain rfl := h6 rfl
  have hsz : vs.size = sz := by
    rw [shape_cells h5] at hsh
    cases hsh; rfl
  subst hsz
  have hlen : us.length = ds.length := (DVL_iff.1 hds).1.symm
  have key := push_all (w' := w.setCells (γ.β id st).1 (n - (γ.β id st).2) us) (b := (γ.β id st).1) (δ := (γ.β id st).2) g id (by rw [size_setCells]; exact Nat.le_refl _) (.inr ⟨st, hst, rfl⟩)
    (fun c hc hn => heap_setCells_ne us w _ _ (fun e => hn st hst e.symm)) (shape_setCells h5 hroom) (loop_setCells h5) (os_setCells us w _ _) (fun x => World.frozen?_setCells _ _ _ _ x)
  obtain ⟨F, g'⟩ := key
  refine ⟨_, rfl, F, g', ⟨by omega, by rw [γ.push_cur, h3], fun s hs => ?_⟩, fun j hj => ?_, fun j hj => ?_⟩
  · have hat : ∀ p : Nat, (cs.take n ++ (ds.map (fun d => Cell.o d cur) ++ (cs.drop (n + ds.length)).map (shutC (cur - 1))))[p]? = if p < n then cs[p]? else if p < n + ds.length then (ds[p - n]?).map (fun d => Cell.o d cur) else (cs[p]?).map (shutC (cur - 1)) := by
      intro p
      by_cases hp : p < n
      · rw [if_pos hp, List.getElem?_append_left (by simp; omega), List.getElem?_take_of_lt hp]
      · rw [if_neg hp, List.getElem?_append_right (by simp; omega)]
        have hl : (cs.take n).length = n := by simp; omega
        rw [hl]
        by_cases hp2 : p < n + ds.length
        · rw [if_pos hp2, List.getElem?_append_left (by simp; omega), List.getElem?_map]
        · rw [if_neg hp2, List.getElem?_append_right (by simp; omega), List.getElem?_map, List.getElem?_drop]
          congr 2; simp; omega
    have hself := heap_setCells_self us h5 hroom
    have hsp : ∀ i : Nat, (splice vs.toList (n - (γ.β id st).2) us).toArray[i]? = (splice vs.toList (n - (γ.β id st).2) us)[i]? := by intro i; simp
    -- an old claim, in the block that was written
    have old : ∀ s0, s0 < γ.cur id → (γ.β id s0).1 = (γ.β id st).1 → ∀ (p : Nat) c, cs[p]? = some c → c.has s0 = true → (γ.β id st).2 ≤ p → (p < n ∨ n + ds.length ≤ p) → ∃ u, (splice vs.toList (n - (γ.β id st).2) us)[p - (γ.β id st).2]? = some u ∧ DV (γ.push id (γ.β id st)) (w.setCells (γ.β id st).1 (n - (γ.β id st).2) us) c.d u ∧ u.oneCell' = true := by
      intro s0 hs0 hb p c hp hh hdp hpos
      obtain ⟨vs2, e2, fr2, k1, k2, k3⟩ := h4 s0 (by omega)
      have hδ : (γ.β id s0).2 = (γ.β id st).2 := (g.inj id s0 id st hs0 hst hb).2
      rw [hb, h5] at k1
      cases k1
      rw [hδ] at k3
      obtain ⟨u, q1, q2, q3⟩ := k3 p c hp hh hdp
      refine ⟨u, ?_, DV.mono F.up _ _ q2, q3⟩
      rw [splice_at (by simpa using hroom)]
      rcases hpos with hpos | hpos
      · rw [if_pos (by omega)]; simpa using q1
      · rw [if_neg (by omega), if_neg (by omega)]; simpa using q1
    rcases Nat.lt_succ_iff_lt_or_eq.1 hs with hs | hs
    · have hs' : s < γ.cur id := by omega
      rw [γ.push_β_old id _ hs']
      by_cases hb : (γ.β id s).1 = (γ.β id st).1
      · have hδ : (γ.β id s).2 = (γ.β id st).2 := (g.inj id s id st hs' hst hb).2
        refine ⟨_, e', (0, 0), by rw [hb]; exact hself, fun _ => rfl, fun p c hp hh hdp => ?_⟩
        rw [hat] at hp
        rw [hδ] at hdp ⊢
        rw [hsp]
        by_cases hp1 : p < n
        · rw [if_pos hp1] at hp
          exact old s hs' hb p c hp hh hdp (.inl hp1)
        · rw [if_neg hp1] at hp
          by_cases hp2 : p < n + ds.length
          · rw [if_pos hp2] at hp
            cases hd2 : ds[p - n]? with
            | none => rw [hd2] at hp; cases hp
            | some d =>
              rw [hd2] at hp
              cases hp
              have := Nat.le_of_ble_eq_true hh
              omega
          · rw [if_neg hp2] at hp
            cases hc : cs[p]? with
            | none => rw [hc] at hp; cases hp
            | some c0 =>
              rw [hc] at hp
              cases hp
              rw [shutC_d]
              exact old s hs' hb p c0 hc (shutC_has hh).1 hdp (.inr (by omega))
      · obtain ⟨vs2, e2, fr2, k1, k2, k3⟩ := h4 s hs
        refine ⟨vs2, e2, fr2, by rw [heap_setCells_ne us w _ _ hb]; exact k1, k2, fun p c hp hh hdp => ?_⟩
        rw [hat] at hp
        by_cases hp1 : p < n
        · rw [if_pos hp1] at hp
          obtain ⟨u, q1, q2, q3⟩ := k3 p c hp hh hdp
          exact ⟨u, q1, DV.mono F.up _ _ q2, q3⟩
        · rw [if_neg hp1] at hp
          by_cases hp2 : p < n + ds.length
          · rw [if_pos hp2] at hp
            cases hd2 : ds[p - n]? with
            | none => rw [hd2] at hp; cases hp
            | some d =>
              rw [hd2] at hp
              cases hp
              have := Nat.le_of_ble_eq_true hh
              omega
          · rw [if_neg hp2] at hp
            cases hc : cs[p]? with
            | none => rw [hc] at hp; cases hp
            | some c0 =>
              rw [hc] at hp
              cases hp
              rw [shutC_d]
              obtain ⟨u, q1, q2, q3⟩ := k3 p c0 hc (shutC_has hh).1 hdp
              exact ⟨u, q1, DV.mono F.up _ _ q2, q3⟩
    · obtain rfl : s = γ.cur id := by omega
      rw [γ.push_β]
      refine ⟨_, e', (0, 0), hself, fun _ => rfl, fun p c hp hh hdp => ?_⟩
      rw [hat] at hp
      rw [hsp]
      by_cases hp1 : p < n
      · rw [if_pos hp1] at hp
        obtain ⟨d, lo, rfl, hlo⟩ := hop c (by
          rw [List.mem_iff_getElem?]
          exact ⟨p, by rw [List.getElem?_take_of_lt hp1]; exact hp⟩)
        exact old st hst rfl p _ hp (Nat.ble_eq_true_of_le hlo) hdp (.inl hp1)
      · rw [if_neg hp1] at hp
        by_cases hp2 : p < n + ds.length
        · rw [if_pos hp2] at hp
          cases hd2 : ds[p - n]? with
          | none => rw [hd2] at hp; cases hp
          | some d =>
            rw [hd2] at hp
            cases hp
            have hlt : p - n < us.length := by have := (List.getElem?_eq_some_iff.1 hd2).1; omega
            refine ⟨us[p - n], ?_, DV.mono F.up _ _ ((DVL_iff.1 hds).2 _ d _ hd2 (List.getElem?_eq_getElem hlt)), h1 _ (List.getElem_mem _)⟩
            rw [splice_at (by simpa using hroom), if_neg (by omega), if_pos (by omega), show p - (γ.β id st).2 - (n - (γ.β id st).2) = p - n by omega]
            exact List.getElem?_eq_getElem hlt
        · rw [if_neg hp2] at hp
          cases hc : cs[p]? with
          | none => rw [hc] at hp; cases hp
          | some c0 =>
            rw [hc] at hp
            cases hp
            have := (shutC_has hh).2
            omega
  · have : n - (γ.β id st).2 + j < vs.size := by omega
    simp [World.cell?, h5, this]
  · simp [World.frozen?, h5]
end
end Go.Ev
