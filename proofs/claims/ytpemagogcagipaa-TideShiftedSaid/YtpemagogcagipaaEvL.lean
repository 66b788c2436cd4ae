import Derived.Test.YtpemagogcagipaaEvK
set_option linter.all false
namespace Go.Ev
open Go.RowKit (Below)

/-! ### worlds -/
theorem heap_setCell_self {w : World} {g o : Nat} {vs : Array Value} {e : TypeId} {fr : Nat × Nat} (v : Value) (h : w.heap[g]? = some (.cells vs e fr)) :
    (w.setCell ⟨g, o, none⟩ v).heap[g]? = some (.cells (vs.setIfInBounds o v) e fr) := by
  simp only [World.setCell, Array.getElem?_modify, h]
  simp
theorem heap_setCells_self : ∀ (new : List Value) {w : World} {g o : Nat} {vs : Array Value} {e : TypeId} {fr : Nat × Nat}, w.heap[g]? = some (.cells vs e fr) → o + new.length ≤ vs.size →
    (w.setCells g o new).heap[g]? = some (.cells (splice vs.toList o new).toArray e fr)
  | [], w, g, o, vs, e, fr, h, _ => by rw [World.setCells, h, splice_nil]
  | v :: r, w, g, o, vs, e, fr, h, hle => by
    rw [World.setCells]
    have h1 := heap_setCell_self (o := o) v h
    have hle' : o + 1 + r.length ≤ vs.size := by simp at hle; omega
    rw [heap_setCells_self r h1 (by simp; omega)]
    congr 2
    rw [Array.toList_setIfInBounds]
    rw [splice_cons (by simpa using hle')]
theorem size_setCells : ∀ (new : List Value) (w : World) (g o : Nat), (w.setCells g o new).heap.size = w.heap.size
  | [], _, _, _ => rfl
  | v :: r, w, g, o => by rw [World.setCells, size_setCells r]; simp [World.setCell]
theorem heap_setCells_ne : ∀ (new : List Value) (w : World) (g o : Nat) {k : Nat}, k ≠ g → (w.setCells g o new).heap[k]? = w.heap[k]?
  | [], _, _, _, _, _ => rfl
  | v :: r, w, g, o, k, h => by rw [World.setCells, heap_setCells_ne r _ g _ h]; exact Below.heap_setCell w ⟨g, o, none⟩ v k h
theorem os_setCells : ∀ (new : List Value) (w : World) (g o : Nat), (w.setCells g o new).os = w.os ∧ (w.setCells g o new).tape = w.tape ∧ (w.setCells g o new).output = w.output
  | [], _, _, _ => ⟨rfl, rfl, rfl⟩
  | v :: r, w, g, o => by rw [World.setCells]; exact os_setCells r _ g _
theorem shape_setCells {w : World} {g o : Nat} {vs : Array Value} {e : TypeId} {fr : Nat × Nat} {new : List Value} (h : w.heap[g]? = some (.cells vs e fr)) (hle : o + new.length ≤ vs.size) (c : Nat) (x : TypeId × Nat) (hx : w.shape? c = some x) : (w.setCells g o new).shape? c = some x := by
  by_cases hc : c = g
  · subst hc
    rw [shape_cells h] at hx
    rw [shape_cells (heap_setCells_self new h hle)]
    rw [← hx]
    congr 2
    rw [List.size_toArray, splice_length (by simpa using hle)]
    simp
  · rw [shape_same (heap_setCells_ne new w g o hc)]; exact hx
theorem loop_setCells {w : World} {g o : Nat} {vs : Array Value} {e : TypeId} {fr : Nat × Nat} {new : List Value} (h : w.heap[g]? = some (.cells vs e fr)) (c : Nat) (r : Loop) (hr : w.heap[c]? = some (.loop r)) : ∃ r', (w.setCells g o new).heap[c]? = some (.loop r') := by
  have hc : c ≠ g := by rintro rfl; rw [h] at hr; cases hr
  exact ⟨r, by rw [heap_setCells_ne new w g o hc]; exact hr⟩
theorem splice_at {α : Type} {l new : List α} {o : Nat} (h : o + new.length ≤ l.length) (i : Nat) : (splice l o new)[i]? = if i < o then l[i]? else if i < o + new.length then new[i - o]? else l[i]? := by
  unfold splice
  by_cases h1 : i < o
  · rw [if_pos h1, List.append_assoc, List.getElem?_append_left (by simp; omega), List.getElem?_take_of_lt h1]
  · rw [if_neg h1]
    by_cases h2 : i < o + new.length
    · rw [if_pos h2, List.append_assoc, List.getElem?_append_right (by simp; omega), List.getElem?_append_left (by simp; omega)]
      congr 1; simp; omega
    · rw [if_neg h2, List.append_assoc, List.getElem?_append_right (by simp; omega), List.getElem?_append_right (by simp; omega), List.getElem?_drop]
      congr 1; simp; omega

section
variable {P : Program} {V : Sel} {γ : Gh} {a : Act} {w : World} {sl : T D} {ob : T C} {nx : Pos} {lg : Option (T Bool)} {nt : Nat} {o : Oper} {ro : Option Nat}

/-- One cell of an object. -/
theorem cell_at {id : Pos} {r : Bool} {cs : List Cell} {cur st p : Nat} {c : Cell} (H : HoldsO P γ w id (.cells r cs cur)) (hst : st < γ.cur id) (hp : cs[p]? = some c) (hh : c.has st = true) (hd : (γ.β id st).2 ≤ p) :
    ∃ u, w.cell? ⟨(γ.β id st).1, p - (γ.β id st).2, none⟩ = some u ∧ DV γ w c.d u ∧ u.oneCell' = true := by
  obtain ⟨_, h1, h2⟩ := H
  obtain ⟨vs, e, fr, h3, _, h4⟩ := h2 st (by omega)
  obtain ⟨u, h5, h6, h7⟩ := h4 p c hp hh hd
  exact ⟨u, by simp [World.cell?, h3, h5], h6, h7⟩
/-- So many cells in a row. -/
theorem cells_at {id : Pos} {r : Bool} {cs : List Cell} {cur st off n : Nat} {ds : List D} (H : HoldsO P γ w id (.cells r cs cur)) (hst : st < γ.cur id) (hd : (γ.β id st).2 ≤ off) (hn : ds.length = n)
    (hds : ∀ (i : Nat) d, ds[i]? = some d → ∃ c, (cs.drop off)[i]? = some c ∧ c.has st = true ∧ c.d = d) :
    ∃ us : List Value, us.length = n ∧ w.rangeAt (γ.β id st).1 (off - (γ.β id st).2) us ∧ DVL γ w ds us ∧ ∀ u ∈ us, u.oneCell' = true := by
  induction ds generalizing off n with
  | nil => exact ⟨[], by simpa using hn, fun j v hv => by simp at hv, DVL.nil, by simp⟩
  | cons d ds ih =>
    subst hn
    obtain ⟨c, h1, h2, h3⟩ := hds 0 d rfl
    rw [List.getElem?_drop, Nat.add_zero] at h1
    obtain ⟨u, e1, e2, e3⟩ := cell_at H hst h1 h2 hd
    obtain ⟨us, e4, e5, e6, e7⟩ := ih (off := off + 1) (n := ds.length) (by omega) rfl (fun i d' hi => by
      obtain ⟨c', h4, h5⟩ := hds (i + 1) d' (by simpa using hi)
      refine ⟨c', ?_, h5⟩
      rw [List.getElem?_drop] at h4 ⊢
      rw [show off + 1 + i = off + (i + 1) by omega]; exact h4)
    refine ⟨u :: us, by simp [e4], fun j v hv => ?_, DVL.cons (by rw [← h3]; exact e2) e6, fun x hx => ?_⟩
    · cases j with
      | zero => simp at hv; subst hv; exact e1
      | succ j =>
        have := e5 j v (by simpa using hv)
        rw [show off + 1 - (γ.β id st).2 + j = off - (γ.β id st).2 + (j + 1) by omega] at this
        exact this
    · rcases List.mem_cons.1 hx with rfl | hx
      · exact e3
      · exact e7 x hx

theorem run_loadVar_row' {t : TypeId} {n : Nat} (h1 : isRow P t = some true) (h2 : szOf P t = some n) {b o : Nat} {vs : List Value} (hv : w.rangeAt b o vs) (hn : vs.length = n) :
    (loadVar t ⟨b, o, none⟩).run P w = .ok (.agg vs.toArray) w := by
  subst hn
  have hl : (loadCells ⟨b, o, none⟩ vs.length).run P w = .ok vs.toArray w :=
    run_loadCells_list (P := P) w ⟨b, o, none⟩ vs (fun j v hj => by rw [Addr.add_mid]; exact hv j v hj)
  simp only [loadVar, Sem.run_bind, run_isAgg h1, Result.andThen_ok, if_true, run_sizeOf' h2, hl]
  rfl
theorem run_loadVar_one {t : TypeId} (h1 : isRow P t = some false) {ad : Addr} {v : Value} (hv : w.cell? ad = some v) :
    (loadVar t ad).run P w = .ok v w := by
  simp [loadVar, Sem.run_bind, run_isAgg h1, hv]
theorem run_storeVar' {t : TypeId} {b o : Nat} {v : Value} (h2 : szOf P t = some v.cells.size) (ht : w.there b o v.cells.size) (h1 : ∀ u ∈ v.cells.toList, u.oneCell' = true) :
    (storeVar t ⟨b, o, none⟩ v).run P w = .ok () (w.setCells b o v.cells.toList) := by
  have := run_storeCells_cells (P := P) b o v.cells.toList 0 w (fun j hj => by simpa using (ht j (by simpa using hj)).1) (fun j hj => by simpa using (ht j (by simpa using hj)).2) h1
  simp only [Nat.add_zero] at this
  simp [storeVar, run_sizeOf' h2, this]
theorem run_load' {t : TypeId} {x : Operand} (ho : o.op = .load t x) {ad : Addr} (hx : a.eval x = .pointer (some ad)) {u : Value} (hl : (loadVar t ad).run P w = .ok u w) :
    (execOp a.eval o).run P w = .ok (.value u) w := by
  simp [execOp, ho, hx, Instr.loadAt, Instr.sureAddr, hl]
theorem run_store' {t : TypeId} {x y : Operand} (ho : o.op = .store t x y) {w' : World} {ad : Addr} (hx : a.eval x = .pointer (some ad)) (hl : (storeVar t ad (a.eval y)).run P w = .ok () w') :
    (execOp a.eval o).run P w = .ok .skip w' := by
  simp [execOp, ho, hx, Instr.storeAt, Instr.sureAddr, hl]

theorem ld1_ok {t : TypeId} {x : Operand} {d : Pos} {r : RX} {Z : X} (ho : o.op = .load t x) (hd : o.dst = some d.ix) (hlt : d.ix < nt) (hx : rx x = some r) (ht : isRow P t = some false) (h : s_ld1 d r sl ob nx lg = some Z) : OpOk P nt o r.ss ⟨sl, ob, nx, lg⟩ Z := by
  unfold s_ld1 at h
  split at h
  · rename_i id off st hv
    split at h
    · rename_i q cs cur hob
      split at h
      · rename_i c hc
        obtain ⟨h1, h2⟩ := cellK_ok h
        obtain ⟨lg', h3, h4, h5⟩ := logR_ok h2
        rw [outK_eq h3]
        rw [nthC_eq] at hc
        refine OpOk.pure hd hlt h4 fun V hs hto γ a w R => ?_
        obtain ⟨e1, e2, e3⟩ := DV_pt (opd_ok hx hv R hs)
        obtain ⟨u, e4, e5, e6⟩ := cell_at (R.ob id _ (hto id h5) hob) e1 hc h1 e2
        exact ⟨u, run_load' ho e3 (run_loadVar_one ht e4), e5⟩
      · cases h
    · cases h
  · rename_i r' k hv
    split at h
    · rename_i v hc
      rw [outK_eq h]
      rw [nthC_eq] at hc
      refine OpOk.pure hd hlt (LgLe.refl _) fun V hs hto γ a w R => ?_
      obtain ⟨b, q, vs, e, fr, k1, k2, e3, k4, k5, k6⟩ := DV_pl (opd_ok hx hv R hs)
      obtain ⟨l1, l2⟩ := DVL_iff.1 k5
      have hlt : k < r'.length := (List.getElem?_eq_some_iff.1 hc).1
      have hq : q + k < vs.size := by omega
      refine ⟨vs[q + k], run_load' ho e3 (run_loadVar_one ht ?_), l2 k _ _ hc ?_⟩
      · unfold World.cell?
        simp [k2, hq]
      · rw [List.getElem?_take_of_lt hlt, List.getElem?_drop]
        simp [hq]
    · cases h
  · cases h
theorem ldn_ok {t : TypeId} {x : Operand} {n : Nat} {d : Pos} {r : RX} {Z : X} (ho : o.op = .load t x) (hd : o.dst = some d.ix) (hlt : d.ix < nt) (hx : rx x = some r) (ht : isRow P t = some true) (hn : szOf P t = some n) (h : s_ldn d r n sl ob nx lg = some Z) : OpOk P nt o r.ss ⟨sl, ob, nx, lg⟩ Z := by
  unfold s_ldn at h
  split at h
  · rename_i id off st hv
    split at h
    · rename_i q cs cur hob
      obtain ⟨ds, h1, h2, h6⟩ := readK_ok h
      obtain ⟨lg', h3, h4, h5⟩ := logR_ok h1
      rw [outK_eq h3]
      rw [dropC_eq] at h6
      refine OpOk.pure hd hlt h4 fun V hs hto γ a w R => ?_
      obtain ⟨e1, e2, e3⟩ := DV_pt (opd_ok hx hv R hs)
      obtain ⟨us, e4, e5, e6, e7⟩ := cells_at (R.ob id _ (hto id h5) hob) e1 e2 h2 h6
      refine ⟨.agg us.toArray, run_load' ho e3 (run_loadVar_row' ht hn e5 e4), ?_⟩
      unfold DV
      exact ⟨_, rfl, e6, e7⟩
    · cases h
  · rename_i r' k hv
    obtain ⟨h1, h2⟩ := takeK_ok h
    rw [dropC_eq] at h1 h2
    rw [outK_eq h2]
    refine OpOk.pure hd hlt (LgLe.refl _) fun V hs hto γ a w R => ?_
    obtain ⟨b, q, vs, e, fr, k1, k2, e3, k4, k5, k6⟩ := DV_pl (opd_ok hx hv R hs)
    simp only [List.length_drop] at h1
    have l1 := (k5.drop k).take n
    have hsub : (((vs.toList.drop q).take r'.length).drop k).take n = (vs.toList.drop (q + k)).take n := by
      rw [List.drop_take, List.take_take, List.drop_drop]
      rw [Nat.min_def]
      split
      · rfl
      · have : n = 0 := by omega
        omega
    refine ⟨.agg ((vs.toList.drop (q + k)).take n).toArray, run_load' ho e3 (run_loadVar_row' ht hn (fun j u hu => ?_) ?_), ?_⟩
    · have hj : j < n := by have := (List.getElem?_eq_some_iff.1 hu).1; simp at this; omega
      rw [List.getElem?_take_of_lt hj, List.getElem?_drop] at hu
      unfold World.cell?
      simp [k2] at hu ⊢
      rw [← hu]
    · simp; omega
    · unfold DV
      refine ⟨_, rfl, ?_, fun u hu => ?_⟩
      · rw [hsub] at l1; simpa using l1
      · refine k6 u ?_
        rw [← hsub] at hu
        simp only [List.toList_toArray] at hu
        exact List.mem_of_mem_drop (List.mem_of_mem_take hu)
  · cases h

/-- New cells at a stamp: what the object holds behind it. -/
theorem write_hold {id : Pos} {cs : List Cell} {cur st off : Nat} {mk : D → Cell} {new : List D} {nv : List Value} (g : G ro γ a w) (H : HoldsO P γ w id (.cells false cs cur)) (hst : st < γ.cur id) (hd : (γ.β id st).2 ≤ off) (hpos : 0 < new.length)
    (hle : off + new.length ≤ cs.length) (hsee : ∀ i, i < new.length → ∃ c, cs[off + i]? = some c ∧ c.has st = true) (hnv : DVL γ w new nv) (h1 : ∀ u ∈ nv, u.oneCell' = true)
    (hmk : (mk = (fun d => .o d st) ∧ st + 1 = cur) ∨ mk = (fun d => .c d st st)) :
    ∃ vs e, w.heap[(γ.β id st).1]? = some (.cells vs e (0, 0)) ∧ off - (γ.β id st).2 + nv.length ≤ vs.size ∧
      (Fr (fun j => j = id) γ γ w (w.setCells (γ.β id st).1 (off - (γ.β id st).2) nv) ∧ (∀ a' : Act, a'.defers = a.defers → G ro γ a' (w.setCells (γ.β id st).1 (off - (γ.β id st).2) nv)) ∧
        HoldsO P γ (w.setCells (γ.β id st).1 (off - (γ.β id st).2) nv) id (.cells false (cs.take off ++ (new.map mk ++ cs.drop (off + new.length))) cur)) := by
  obtain ⟨h2, h3, h4⟩ := H
  obtain ⟨vs, e, fr, h5, h6, h7⟩ := h4 st (by omega)
  obtain rfl := h6 rfl
  have hnl : nv.length = new.length := (DVL_iff.1 hnv).1.symm
  have hroom : off - (γ.β id st).2 + nv.length ≤ vs.size := by
    obtain ⟨c, hc, hh⟩ := hsee (new.length - 1) (by omega)
    obtain ⟨u, h8, _⟩ := h7 _ c hc hh (by omega)
    have := (Array.getElem?_eq_some_iff.1 h8).1
    omega
  obtain ⟨F, g'⟩ := same_all (w' := w.setCells (γ.β id st).1 (off - (γ.β id st).2) nv) g id (by rw [size_setCells]; exact Nat.le_refl _)
    (fun c hc hn => heap_setCells_ne nv w _ _ (fun e => hn st hst e.symm)) (shape_setCells h5 hroom) (loop_setCells h5) (os_setCells nv w _ _) (fun x => World.frozen?_setCells _ _ _ _ x)
  refine ⟨vs, e, h5, hroom, F, g', h2, h3, fun s hs => ?_⟩
  obtain ⟨vs2, e2, fr2, k1, k2, k3⟩ := h4 s hs
  have hs' : s < γ.cur id := by omega
  -- the new list, by places
  have hat : ∀ p, (cs.take off ++ (new.map mk ++ cs.drop (off + new.length)))[p]? = if p < off then cs[p]? else if p < off + new.length then (new[p - off]?).map mk else cs[p]? := by
    intro p
    have := splice_at (l := cs) (new := new.map mk) (o := off) (by simpa using hle) p
    unfold splice at this
    rw [List.append_assoc] at this
    simpa using this
  by_cases hb : (γ.β id s).1 = (γ.β id st).1
  · have hδ : (γ.β id s).2 = (γ.β id st).2 := (g.inj id s id st hs' hst hb).2
    rw [hb, h5] at k1
    cases k1
    refine ⟨_, e, (0, 0), by rw [hb]; exact heap_setCells_self nv h5 hroom, fun _ => rfl, fun p c hp hh hdp => ?_⟩
    rw [hat] at hp
    rw [hδ] at hdp k3 ⊢
    have hsp : (splice vs.toList (off - (γ.β id st).2) nv).toArray[p - (γ.β id st).2]? = (splice vs.toList (off - (γ.β id st).2) nv)[p - (γ.β id st).2]? := by simp
    rw [hsp, splice_at (by simpa using hroom)]
    by_cases hp1 : p < off
    · rw [if_pos hp1] at hp
      rw [if_pos (by omega)]
      obtain ⟨u, q1, q2, q3⟩ := k3 p c hp hh hdp
      exact ⟨u, by simpa using q1, DV.mono F.up _ _ q2, q3⟩
    · rw [if_neg hp1] at hp
      rw [if_neg (by omega)]
      by_cases hp2 : p < off + new.length
      · rw [if_pos hp2] at hp
        rw [if_pos (by omega)]
        cases hd2 : new[p - off]? with
        | none => rw [hd2] at hp; cases hp
        | some d =>
          rw [hd2] at hp
          cases hp
          have hlt : p - off < nv.length := by have := (List.getElem?_eq_some_iff.1 hd2).1; omega
          refine ⟨nv[p - off], by rw [show p - (γ.β id st).2 - (off - (γ.β id st).2) = p - off by omega]; exact List.getElem?_eq_getElem hlt, ?_, h1 _ (List.getElem_mem _)⟩
          have := (DVL_iff.1 hnv).2 (p - off) d _ hd2 (List.getElem?_eq_getElem hlt)
          rcases hmk with ⟨rfl, _⟩ | rfl <;> exact DV.mono F.up _ _ this
      · rw [if_neg hp2] at hp
        rw [if_neg (by omega)]
        obtain ⟨u, q1, q2, q3⟩ := k3 p c hp hh hdp
        exact ⟨u, by simpa using q1, DV.mono F.up _ _ q2, q3⟩
  · refine ⟨vs2, e2, fr2, by rw [heap_setCells_ne nv w _ _ hb]; exact k1, k2, fun p c hp hh hdp => ?_⟩
    rw [hat] at hp
    by_cases hp1 : p < off
    · rw [if_pos hp1] at hp
      obtain ⟨u, q1, q2, q3⟩ := k3 p c hp hh hdp
      exact ⟨u, q1, DV.mono F.up _ _ q2, q3⟩
    · rw [if_neg hp1] at hp
      by_cases hp2 : p < off + new.length
      · rw [if_pos hp2] at hp
        exfalso
        apply hb
        have : s = st := by
          cases hd2 : new[p - off]? with
          | none => rw [hd2] at hp; cases hp
          | some d =>
            rw [hd2] at hp
            cases hp
            rcases hmk with ⟨rfl, hc⟩ | rfl
            · have := Nat.le_of_ble_eq_true hh
              omega
            · have hh : (Nat.ble st s && Nat.ble s st) = true := hh
              rw [Bool.and_eq_true] at hh
              have := Nat.le_of_ble_eq_true hh.1
              have := Nat.le_of_ble_eq_true hh.2
              omega
        rw [this]
      · rw [if_neg hp2] at hp
        obtain ⟨u, q1, q2, q3⟩ := k3 p c hp hh hdp
        exact ⟨u, q1, DV.mono F.up _ _ q2, q3⟩

theorem objK_eq {id : Pos} {c : C} {Z : X} (h : objK sl ob nx lg id c = some Z) : ∃ lg', Z = ⟨sl, T.set id c ob, nx, lg'⟩ ∧ LgLe lg lg' ∧ wrtn lg' id := by
  unfold objK at h
  obtain ⟨lg', h1, h2, h3⟩ := logW_ok h
  rw [T.setK_eq] at h1
  cases h1
  exact ⟨lg', rfl, h2, h3⟩
theorem objOutK_eq {id : Pos} {c : C} {d : Pos} {v : D} {Z : X} (h : objOutK sl ob nx lg id c d v = some Z) : ∃ lg', Z = ⟨T.set d v sl, T.set id c ob, nx, lg'⟩ ∧ LgLe lg lg' ∧ wrtn lg' id := by
  unfold objOutK at h
  obtain ⟨lg', h1, h2, h3⟩ := logW_ok h
  rw [T.setK_eq] at h1
  exact ⟨lg', outK_eq h1, h2, h3⟩

theorem st_ok {t : TypeId} {x y : Operand} {n : Nat} {r1 r2 : RX} {Z : X} (ho : o.op = .store t x y) (hd : o.dst = none) (hx : rx x = some r1) (hy : rx y = some r2) (hn : szOf P t = some (n + 1)) (h : s_st r1 r2 (n + 1) sl ob nx lg = some Z) : OpOk P nt o (r1.ss ++ r2.ss) ⟨sl, ob, nx, lg⟩ Z := by
  unfold s_st at h
  split at h
  · rename_i id off st v hv hw
    split at h
    · rename_i cs cur ds hob hds
      cases hb : Nat.beq ds.length (n + 1) with
      | false => rw [hb] at h; cases h
      | true =>
        rw [hb] at h
        simp only [cond_true] at h
        have hdn := Nat.eq_of_beq_eq_true hb
        have key : ∀ mk : D → Cell, ((mk = (fun d => .o d st) ∧ st + 1 = cur) ∨ mk = (fun d => .c d st st)) → writeK st mk ds off cs (fun cs => objK sl ob nx lg id (.cells false cs cur)) = some Z → OpOk P nt o (r1.ss ++ r2.ss) ⟨sl, ob, nx, lg⟩ Z := by
          intro mk hmk h
          obtain ⟨h1, h2, h3⟩ := writeK_ok h
          obtain ⟨lg', rfl, h4, h5⟩ := objK_eq h2
          refine OpOk.skip hd h4 ((Keeps.refl _ _).set h5 _) fun V hs hto ro γ a w g R => ?_
          obtain ⟨e1, e2, e3⟩ := DV_pt (opd_ok hx hv R fun s h => hs s (by simp [h]))
          obtain ⟨c1, c2⟩ := cellsD_ok (opd_ok hy hw R fun s h => hs s (by simp [h])) hds
          have hvl : (a.eval y).cells.size = n + 1 := by have := (DVL_iff.1 c1).1; simp at this; omega
          obtain ⟨vs, e, q1, q2, F, g', H'⟩ := write_hold g (R.ob id _ (hto id h5.tchd) hob) e1 e2 (by omega) h1 h3 c1 c2 hmk
          have hsv := run_storeVar' (P := P) (t := t) (w := w) (b := (γ.β id st).1) (o := off - (γ.β id st).2) (v := a.eval y) (by rw [hn, hvl]) (fun j hj => by
            have hj2 : off - (γ.β id st).2 + j < vs.size := by simp at q2; omega
            exact ⟨by simp [World.cell?, q1, hj2], by simp [World.frozen?, q1]⟩) c2
          exact ⟨_, .inl (run_store' ho e3 hsv), F.mono (fun j e => by rw [e]; exact h5), g', others_hold R g F fun _ => H'⟩
        cases hb2 : Nat.beq (Nat.succ st) cur with
        | true =>
          rw [hb2] at h
          exact key _ (.inl ⟨rfl, Nat.eq_of_beq_eq_true hb2⟩) h
        | false =>
          rw [hb2] at h
          exact key _ (.inr rfl) h
    · cases h
  · cases h
end
end Go.Ev
