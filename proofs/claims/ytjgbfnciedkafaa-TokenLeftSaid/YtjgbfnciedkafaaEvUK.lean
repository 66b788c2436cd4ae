import Derived.Test.YtjgbfnciedkafaaEvUG
set_option linter.all false
namespace Go.Ev
open Go.RowKit (Below)
theorem splice_cons {α : Type} {l : List α} {o : Nat} {x : α} {new : List α} (h : o + 1 + new.length ≤ l.length) : splice (l.set o x) (o + 1) new = splice l o (x :: new) := by
  unfold splice
  have h1 : (l.set o x).take (o + 1) = l.take o ++ [x] := by
    rw [List.take_succ_eq_append_getElem (by simp; omega)]
    simp [List.take_set_of_le]
  have h2 : (l.set o x).drop (o + 1 + new.length) = l.drop (o + (x :: new).length) := by
    rw [List.drop_set_of_lt (by omega), List.length_cons]
    congr 1; omega
  rw [h1, h2]
  simp
theorem splice_nil {α : Type} (l : List α) (o : Nat) : splice l o [] = l := by simp [splice]
theorem foldl_set : ∀ (vs : List Value) (cs : Array Value) (o k : Nat), o + k + vs.length ≤ cs.size →
    (vs.zipIdx k).foldl (fun cs (p : Value × Nat) => cs.setIfInBounds (o + p.2) p.1) cs = (splice cs.toList (o + k) vs).toArray
  | [], cs, o, k, _ => by simp [splice_nil]
  | v :: vs, cs, o, k, h => by
    simp only [List.length_cons] at h
    rw [List.zipIdx_cons, List.foldl_cons]
    simp only []
    rw [foldl_set vs _ o (k + 1) (by simp; omega), Array.toList_setIfInBounds, ← Nat.add_assoc, splice_cons (by simp; omega)]
section
variable {P : Program} {sl : T D} {ob : T C} {nx : Pos} {lg : Option (T Bool)} {nt : Nat} {o : Oper}
theorem parts_ok {β : Type} {place : Nat → Option (Nat × Nat)} : ∀ {ps : List (Nat × Operand)} {rs : List (Nat × Nat × RX)} {l : List D} {k : List D → Option β} {Z : β}, partsC place ps = some rs → partsK sl rs l k = some Z →
    ∃ l', k l' = some Z ∧ l'.length = l.length ∧ ∀ {V : Sel} {γ : Gh} {a : Act} {w : World}, Rep P V γ a w ⟨sl, ob, nx, lg⟩ → (∀ s, s ∈ RX.ssp rs → V.ss s) → ∀ cells : Array Value, DVL γ w l cells.toList → (∀ u ∈ cells.toList, u.oneCell' = true) →
      ∃ cells', Instr.fill place cells (ps.map fun y => (y.1, a.eval y.2)) = some cells' ∧ DVL γ w l' cells'.toList ∧ ∀ u ∈ cells'.toList, u.oneCell' = true
  | [], rs, l, k, Z, hp, h => by
    cases hp
    exact ⟨l, h, rfl, fun R _ cells h1 h2 => ⟨cells, rfl, h1, h2⟩⟩
  | (i, x) :: ps, rs, l, k, Z, hp, h => by
    simp only [partsC] at hp
    split at hp
    · rename_i off n r rs' h1 h2 h3
      cases hp
      have h : (match opd sl r with
        | some d => match cellsD d with
          | some cs => bif Nat.beq cs.length n then layAtK cs off l fun l => partsK sl rs' l k else none
          | none => none
        | none => none) = some Z := h
      split at h
      · rename_i d hd
        split at h
        · rename_i cs hcs
          cases hb : Nat.beq cs.length n with
          | false => rw [hb] at h; cases h
          | true =>
            rw [hb] at h
            have hcn := Nat.eq_of_beq_eq_true hb
            obtain ⟨h4, h5⟩ := layAtK_ok h
            obtain ⟨l', h6, h7, h8⟩ := parts_ok h3 h5
            refine ⟨l', h6, by rw [h7, splice_length h4], fun {V γ a w} R hs cells hd1 hd2 => ?_⟩
            obtain ⟨e1, e2⟩ := cellsD_ok (opd_ok h2 hd R fun s hs' => hs s (by simp [RX.ssp, hs'])) hcs
            have hvl := (DVL_iff.1 e1).1
            have hcl := (DVL_iff.1 hd1).1
            have hvs : (a.eval x).cells.size = n := by rw [← hcn, hvl]; simp
            have hof : off + (a.eval x).cells.size ≤ cells.size := by simp at hcl; omega
            have hnext : (a.eval x).cells.zipIdx.foldl (fun cs (p : Value × Nat) => cs.setIfInBounds (off + p.2) p.1) cells = (splice cells.toList off (a.eval x).cells.toList).toArray := by
              have := foldl_set (a.eval x).cells.toList cells off 0 (by simpa using hof)
              rw [Nat.add_zero] at this
              rw [← this, ← Array.foldl_toList]
              simp
            obtain ⟨cells', e3, e4, e5⟩ := h8 R (fun s hs' => hs s (by simp [RX.ssp, hs'])) (splice cells.toList off (a.eval x).cells.toList).toArray (hd1.splice e1 off) (splice_one hd2 e2 off)
            refine ⟨cells', ?_, e4, e5⟩
            simp only [List.map_cons, Instr.fill, h1]
            split
            · rename_i hbad; exact absurd hbad (by simp [hvs]; omega)
            · rw [← e3]
              congr 1
        · cases h
      · cases h
    · cases hp
theorem run_places (w : World) : ∀ {fs : List Field} {r : List (Nat × Nat)}, fldPlaces P fs = some r → (fs.mapM fun f => (do pure (f.offset, ← sizeOf f.type) : Sem (Nat × Nat))).run P w = .ok r w
  | [], r, h => by cases h; rfl
  | f :: fs, r, h => by
    simp only [fldPlaces] at h
    split at h
    · rename_i n r' h1 h2
      cases h
      rw [List.mapM_cons]
      simp only [Sem.run_bind, run_sizeOf' h1, Result.andThen_ok, Sem.run_pure, run_places w h2]
    · cases h
theorem bld_ok {t : TypeId} {parts : Array (Nat × Operand)} {zs : List D} {pl : Nat → Option (Nat × Nat)} {rs : List (Nat × Nat × RX)} {d : Pos} {Z : X} (ho : o.op = .build t parts) (hd : o.dst = some d.ix) (hlt : d.ix < nt) (hz : zeroD P t = some zs) (hpl : placeOf P t = some pl) (hrs : partsC pl parts.toList = some rs)
    (h : s_bld d zs rs sl ob nx lg = some Z) : OpOk P nt o (RX.ssp rs) ⟨sl, ob, nx, lg⟩ Z := by
  unfold s_bld at h
  obtain ⟨l', h1, _, h2⟩ := parts_ok (P := P) (ob := ob) (nx := nx) (lg := lg) hrs h
  rw [outK_eq h1]
  obtain ⟨z, z1, z2, z3⟩ := zeroD_ok hz
  refine OpOk.pure hd hlt (LgLe.refl _) fun V hs _ γ a w R => ?_
  obtain ⟨cells, e1, e2, e3⟩ := h2 R hs z.cells (z2 _ _) z3
  refine ⟨.agg cells, ?_, by unfold DV; exact ⟨cells, rfl, e2, e3⟩⟩
  unfold placeOf at hpl
  split at hpl
  · rename_i fs hu
    cases hf : fldPlaces P fs.toList with
    | none => rw [hf] at hpl; cases hpl
    | some r =>
      rw [hf] at hpl
      cases hpl
      have hm : (fs.mapM fun f => (do pure (f.offset, ← sizeOf f.type) : Sem (Nat × Nat))).run P w = .ok r.toArray w := by
        rw [Array.mapM_eq_mapM_toList]
        simp only [Sem.run_map, run_places w hf, Result.andThen_ok]
      have e1' : Instr.fill (fun i => r.toArray[i]?) z.cells (parts.toList.map fun y => (y.1, a.eval y.2)) = some cells := by
        rw [← e1]; congr 1; funext i; simp
      simp only [execOp, ho, Instr.build, Sem.run_bind, z1, Result.andThen_ok, run_underlying hu, hm]
      simp only [Array.toList_map, e1']
      rfl
  · rename_i n el hu
    cases hn : szOf P el with
    | none => rw [hn] at hpl; cases hpl
    | some m =>
      rw [hn] at hpl
      cases hpl
      simp only [execOp, ho, Instr.build, Sem.run_bind, z1, Result.andThen_ok, run_underlying hu, run_sizeOf' hn]
      simp only [Array.toList_map, e1]
      rfl
  · cases hpl
theorem reps_length (z : List D) : ∀ n, (reps z n).length = n * z.length
  | 0 => by simp [reps]
  | n + 1 => by simp [reps, reps_length z n, Nat.add_mul]; omega
theorem reps_at (z : List D) : ∀ (n i : Nat), i < n * z.length → (reps z n)[i]? = z[i % z.length]?
  | 0, i, h => by omega
  | n + 1, i, h => by
    simp only [reps]
    by_cases hi : i < z.length
    · rw [List.getElem?_append_left hi, Nat.mod_eq_of_lt hi]
    · rw [List.getElem?_append_right (by omega), reps_at z n (i - z.length) (by rw [Nat.add_mul] at h; omega)]
      congr 1
      rw [Nat.mod_eq_sub_mod (by omega : i ≥ z.length)]
theorem zeros_ok {γ : Gh} {w : World} {z : List D} {v : Array Value} (h : DVL γ w z v.toList) (h1 : ∀ u ∈ v.toList, u.oneCell' = true) {n m : Nat} (hm : m = n * z.length) : DVL γ w (reps z n) ((Array.range m).map (v[· % v.size]!)).toList ∧ ∀ u ∈ ((Array.range m).map (v[· % v.size]!)).toList, u.oneCell' = true := by
  obtain ⟨h2, h3⟩ := DVL_iff.1 h
  have hz : z.length = v.size := by simpa using h2
  by_cases h0 : v.size = 0
  · have : m = 0 := by rw [hm, hz, h0]; simp
    subst this
    have hr : reps z n = [] := by rw [← List.length_eq_zero_iff, reps_length, hz, h0]; simp
    rw [hr]
    simp [DVL]
  · have hpos : 0 < v.size := by omega
    refine ⟨DVL_iff.2 ⟨by rw [reps_length]; simp [hm], fun i d u hd hu => ?_⟩, fun u hu => ?_⟩
    · have hi : i < n * z.length := by rw [← reps_length]; exact (List.getElem?_eq_some_iff.1 hd).1
      rw [reps_at z n i hi] at hd
      have hmod : i % v.size < v.size := Nat.mod_lt _ hpos
      have hu' : u = v[i % v.size] := by
        simp at hu
        obtain ⟨k, hk, rfl⟩ := hu
        have hk' : k = i := by
          obtain ⟨h5, h6⟩ := List.getElem?_eq_some_iff.1 hk
          simpa using h6.symm
        subst hk'
        simp [hmod]
      rw [hu']
      exact h3 (i % v.size) d _ (by rw [← hz]; exact hd) (by simp [hmod])
    · simp at hu
      obtain ⟨i, _, rfl⟩ := hu
      have hmod : i % v.size < v.size := Nat.mod_lt _ hpos
      simp [hmod]
      exact h1 _ (by simp)
theorem sl_fresh {γ : Gh} {w w2 : World} {vs : Array Value} {e : TypeId} {len z : Nat} (h0 : γ.cur nx = 0) (hh : w2.heap[w.heap.size]? = some (.cells vs e)) (hs : len * z ≤ vs.size) : DV (γ.push nx (w.heap.size, 0)) w2 (.sl nx 0 len 0 z) (.slice (some ⟨w.heap.size, 0, none⟩) len len) := by
  unfold DV
  have hb := γ.push_β nx (w.heap.size, 0)
  rw [h0] at hb
  rw [hb, γ.push_cur, h0]
  exact ⟨Nat.one_pos, Nat.le_refl _, len, e, vs.size, rfl, Nat.le_refl _, shape_cells hh, by simpa using hs⟩
theorem bsl_ok {t el : TypeId} {len z : Nat} {parts : Array (Nat × Operand)} {zs : List D} {rs : List (Nat × Nat × RX)} {d : Pos} {Z : X} (ho : o.op = .buildSlice t len parts) (hd : o.dst = some d.ix) (hlt : d.ix < nt) (hu : P.underlying t = some (.slice el)) (hs : szOf P el = some z) (hz : zeroD P el = some zs)
    (hrs : partsC (fun i => some (i * z, z)) parts.toList = some rs) (hle : len * z ≤ 16777216) (hzl : zs.length = z) (h : s_bsl d z len (reps zs len) rs sl ob nx lg = some Z) : OpOk P nt o (RX.ssp rs) ⟨sl, ob, nx, lg⟩ Z := by
  unfold s_bsl at h
  obtain ⟨l', h1, hl', h2⟩ := parts_ok (P := P) (ob := ob) (nx := nx) (lg := lg) hrs h
  rw [openK_eq] at h1
  obtain ⟨lg', rfl, h3, h4⟩ := freshK_eq h1
  obtain ⟨zv, z1, z2, z3⟩ := zeroD_ok hz
  refine OpOk.fresh hd hlt h3 h4 fun V hs' γ a w R h0 => ?_
  have hinit : ∀ γ w, DVL γ w (reps zs len) ((Array.range (len * z)).map (zv.cells[· % zv.cells.size]!)).toList ∧ ∀ u ∈ ((Array.range (len * z)).map (zv.cells[· % zv.cells.size]!)).toList, u.oneCell' = true := fun γ w => zeros_ok (z2 γ w) z3 (by rw [hzl])
  obtain ⟨cells, e1, e2, e3⟩ := h2 R hs' _ (hinit _ _).1 (hinit γ w).2
  have hsz : cells.size = len * z := by
    have := (DVL_iff.1 e2).1
    rw [hl', reps_length, hzl] at this
    simpa using this.symm
  refine ⟨.slice (some ⟨w.heap.size, 0, none⟩) len len, .cells cells el, ?_, fun {w2} e U hh => ⟨sl_fresh h0 hh (by omega), ?_⟩⟩
  · simp only [execOp, ho, Instr.buildSlice, Sem.run_bind, run_underlying hu, Result.andThen_ok, run_sizeOf' hs]
    rw [if_neg (by omega)]
    by_cases hzero : len * z = 0
    · rw [if_pos hzero]
      simp only [Sem.run_bind, Sem.run_pure, Result.andThen_ok]
      have e1' : Instr.fill (fun i => some (i * z, z)) ((Array.range (len * z)).map ((#[] : Array Value)[· % (#[] : Array Value).size]!)) (parts.map fun (i, x) => (i, a.eval x)).toList = some cells := by
        have hz0 : ∀ f : Nat → Value, Array.map f (Array.range 0) = #[] := fun f => by apply Array.ext'; simp
        rw [← e1, hzero, hz0, hz0]
        simp
      rw [e1']
      rfl
    · rw [if_neg hzero]
      simp only [Sem.run_bind, z1, Result.andThen_ok, Sem.run_pure]
      have e1' : Instr.fill (fun i => some (i * z, z)) ((Array.range (len * z)).map (zv.cells[· % zv.cells.size]!)) (parts.map fun (i, x) => (i, a.eval x)).toList = some cells := by
        rw [← e1]
        simp
      rw [e1']
      rfl
  · have hb := γ.push_β nx (w.heap.size, 0)
    rw [h0] at hb
    exact cells_hold (by rw [γ.push_cur, h0]) hb hh (DVL.mono U _ _ e2) e3
theorem repK_eq {β : Type} (zs : List D) : ∀ (l : Nat) (k : List Cell → Option β), (Nat.rec (fun k => k []) (fun _ ih k => ih fun l => consK (fun d => .o d 0) zs l k) l : (List Cell → Option β) → Option β) k = k ((reps zs l).map fun d => .o d 0)
  | 0, k => rfl
  | l + 1, k => by
    show (Nat.rec (fun k => k []) (fun _ ih k => ih fun l => consK (fun d => .o d 0) zs l k) l : (List Cell → Option β) → Option β) (fun l => consK (fun d => .o d 0) zs l k) = _
    rw [repK_eq zs l, consK_eq]
    simp [reps]
theorem mks_ok {t el : TypeId} {l c : Operand} {i : TypeInfo} {z : Nat} {zs : List D} {d : Pos} {r1 r2 : RX} {Z : X} (ho : o.op = .makeSlice t l c) (hd : o.dst = some d.ix) (hlt : d.ix < nt) (hx : rx l = some r1) (hy : rx c = some r2) (hu : P.underlying t = some (.slice el)) (hs : szOf P el = some z) (hz : zeroD P el = some zs) (hi : P.info? el = some i)
    (hby : i.bytes ≤ 65536) (hzl : zs.length = z) (h : s_mks d z zs r1 r2 sl ob nx lg = some Z) : OpOk P nt o (r1.ss ++ r2.ss) ⟨sl, ob, nx, lg⟩ Z := by
  unfold s_mks at h
  split at h
  · rename_i k1 l' k2 c' hl hc
    cases hb : (Nat.beq l' c' && Nat.ble l' 65536) with
    | false => rw [hb] at h; cases h
    | true =>
      rw [hb] at h
      simp only [cond_true] at h
      rw [repK_eq] at h
      rw [Bool.and_eq_true] at hb
      have e1 := Nat.eq_of_beq_eq_true hb.1
      have e2 := Nat.le_of_ble_eq_true hb.2
      subst e1
      obtain ⟨lg', rfl, h3, h4⟩ := freshK_eq h
      obtain ⟨zv, z1, z2, z3⟩ := zeroD_ok hz
      have hinit : ∀ γ w, DVL γ w (reps zs l') ((Array.range (l' * z)).map (zv.cells[· % zv.cells.size]!)).toList ∧ ∀ u ∈ ((Array.range (l' * z)).map (zv.cells[· % zv.cells.size]!)).toList, u.oneCell' = true := fun γ w => zeros_ok (z2 γ w) z3 (by rw [hzl])
      refine OpOk.fresh hd hlt h3 h4 fun V hs' γ a w R h0 => ⟨.slice (some ⟨w.heap.size, 0, none⟩) l' l', .cells ((Array.range (l' * z)).map (zv.cells[· % zv.cells.size]!)) el, ?_, fun {w2} e U hh => ⟨sl_fresh h0 hh (by simp), ?_⟩⟩
      · have v1 := DV_i (opd_ok hx hl R fun s h => hs' s (by simp [h]))
        have v2 := DV_i (opd_ok hy hc R fun s h => hs' s (by simp [h]))
        have w1 : IntKind.i64.wrap (l' : Int) = (l' : Int) := IntWalk.i64_in _ (by omega)
        have hz0 : ∀ f : Nat → Value, Array.map f (Array.range 0) = #[] := fun f => by apply Array.ext'; simp
        have hle : i.bytes * l' ≤ 65536 * 65536 := Nat.mul_le_mul hby e2
        have hby2 : ¬ ((281474976710656 : Int) < (i.bytes : Int) * (l' : Int)) := by
          have : ((i.bytes * l' : Nat) : Int) = (i.bytes : Int) * (l' : Int) := by simp
          omega
        have hroom : ¬ (140737488355328 < l' * i.bytes) := by rw [Nat.mul_comm]; omega
        have hneg : ¬ ((l' : Int) < 0) := by omega
        by_cases hzero : l' * z = 0
        · simp [execOp, ho, Instr.makeSlice, v1, v2, asInt, asIntOf, run_underlying hu, typeInfo, hi, w1, hneg, hby2, askRoom, roomBytes, hroom, run_sizeOf' hs, hzero, newRow, hz0]
        · simp [execOp, ho, Instr.makeSlice, v1, v2, asInt, asIntOf, run_underlying hu, typeInfo, hi, w1, hneg, hby2, askRoom, roomBytes, hroom, run_sizeOf' hs, hzero, z1, newRow]
      · have hb := γ.push_β nx (w.heap.size, 0)
        rw [h0] at hb
        exact cells_hold (by rw [γ.push_cur, h0]) hb hh (hinit _ _).1 (hinit γ w2).2
  · cases h
end
end Go.Ev
namespace Go.Ev
open Go.RowKit (Below)
theorem heap_setCell_self {w : World} {g o : Nat} {vs : Array Value} {e : TypeId} {fr : Nat × Nat} (v : Value) (h : w.heap[g]? = some (.cells vs e fr)) :
    (w.setCell ⟨g, o, none⟩ v).heap[g]? = some (.cells (vs.setIfInBounds o v) e fr) := by
  simp only [World.setCell, Array.getElem?_modify, h]
  simp
theorem heap_setCells_self : ∀ (new : List Value) {w : World} {g o : Nat} {vs : Array Value} {e : TypeId} {fr : Nat × Nat}, w.heap[g]? = some (.cells vs e fr) → o + new.length ≤ vs.size →
    (w.setCells g o new).heap[g]? = some (.cells (splice vs.toList o new).toArray e fr)
  | [], w, g, o, vs, e, fr, h, _ => by rw [World.setCells, h, splice_nil]
  | v :: r, w, g, o, vs, e, fr, h, hle => by
    rw [World.setCells]
    have h1 := heap_setCell_self (o := o) v h
    have hle' : o + 1 + r.length ≤ vs.size := by simp at hle; omega
    rw [heap_setCells_self r h1 (by simp; omega)]
    congr 2
    rw [Array.toList_setIfInBounds]
    rw [splice_cons (by simpa using hle')]
theorem size_setCells : ∀ (new : List Value) (w : World) (g o : Nat), (w.setCells g o new).heap.size = w.heap.size
  | [], _, _, _ => rfl
  | v :: r, w, g, o => by rw [World.setCells, size_setCells r]; simp [World.setCell]
theorem heap_setCells_ne : ∀ (new : List Value) (w : World) (g o : Nat) {k : Nat}, k ≠ g → (w.setCells g o new).heap[k]? = w.heap[k]?
  | [], _, _, _, _, _ => rfl
  | v :: r, w, g, o, k, h => by rw [World.setCells, heap_setCells_ne r _ g _ h]; exact Below.heap_setCell w ⟨g, o, none⟩ v k h
theorem os_setCells : ∀ (new : List Value) (w : World) (g o : Nat), (w.setCells g o new).os = w.os ∧ (w.setCells g o new).tape = w.tape ∧ (w.setCells g o new).output = w.output
  | [], _, _, _ => ⟨rfl, rfl, rfl⟩
  | v :: r, w, g, o => by rw [World.setCells]; exact os_setCells r _ g _
theorem shape_setCells {w : World} {g o : Nat} {vs : Array Value} {e : TypeId} {fr : Nat × Nat} {new : List Value} (h : w.heap[g]? = some (.cells vs e fr)) (hle : o + new.length ≤ vs.size) (c : Nat) (x : TypeId × Nat) (hx : w.shape? c = some x) : (w.setCells g o new).shape? c = some x := by
  by_cases hc : c = g
  · subst hc
    rw [shape_cells h] at hx
    rw [shape_cells (heap_setCells_self new h hle)]
    rw [← hx]
    congr 2
    rw [List.size_toArray, splice_length (by simpa using hle)]
    simp
  · rw [shape_same (heap_setCells_ne new w g o hc)]; exact hx
theorem loop_setCells {w : World} {g o : Nat} {vs : Array Value} {e : TypeId} {fr : Nat × Nat} {new : List Value} (h : w.heap[g]? = some (.cells vs e fr)) (c : Nat) (r : Loop) (hr : w.heap[c]? = some (.loop r)) : ∃ r', (w.setCells g o new).heap[c]? = some (.loop r') := by
  have hc : c ≠ g := by rintro rfl; rw [h] at hr; cases hr
  exact ⟨r, by rw [heap_setCells_ne new w g o hc]; exact hr⟩
theorem splice_at {α : Type} {l new : List α} {o : Nat} (h : o + new.length ≤ l.length) (i : Nat) : (splice l o new)[i]? = if i < o then l[i]? else if i < o + new.length then new[i - o]? else l[i]? := by
  unfold splice
  by_cases h1 : i < o
  · rw [if_pos h1, List.append_assoc, List.getElem?_append_left (by simp; omega), List.getElem?_take_of_lt h1]
  · rw [if_neg h1]
    by_cases h2 : i < o + new.length
    · rw [if_pos h2, List.append_assoc, List.getElem?_append_right (by simp; omega), List.getElem?_append_left (by simp; omega)]
      congr 1; simp; omega
    · rw [if_neg h2, List.append_assoc, List.getElem?_append_right (by simp; omega), List.getElem?_append_right (by simp; omega), List.getElem?_drop]
      congr 1; simp; omega
section
variable {P : Program} {V : Sel} {γ : Gh} {a : Act} {w : World} {sl : T D} {ob : T C} {nx : Pos} {lg : Option (T Bool)} {nt : Nat} {o : Oper} {ro : Option Nat}
theorem cell_at {id : Pos} {r : Bool} {cs : List Cell} {cur st p : Nat} {c : Cell} (H : HoldsO P γ w id (.cells r cs cur)) (hst : st < γ.cur id) (hp : cs[p]? = some c) (hh : c.has st = true) (hd : (γ.β id st).2 ≤ p) :
    ∃ u, w.cell? ⟨(γ.β id st).1, p - (γ.β id st).2, none⟩ = some u ∧ DV γ w c.d u ∧ u.oneCell' = true := by
  obtain ⟨_, h1, h2⟩ := H
  obtain ⟨vs, e, fr, h3, _, h4⟩ := h2 st (by omega)
  obtain ⟨u, h5, h6, h7⟩ := h4 p c hp hh hd
  exact ⟨u, by simp [World.cell?, h3, h5], h6, h7⟩
theorem cells_at {id : Pos} {r : Bool} {cs : List Cell} {cur st off n : Nat} {ds : List D} (H : HoldsO P γ w id (.cells r cs cur)) (hst : st < γ.cur id) (hd : (γ.β id st).2 ≤ off) (hn : ds.length = n)
    (hds : ∀ (i : Nat) d, ds[i]? = some d → ∃ c, (cs.drop off)[i]? = some c ∧ c.has st = true ∧ c.d = d) :
    ∃ us : List Value, us.length = n ∧ w.rangeAt (γ.β id st).1 (off - (γ.β id st).2) us ∧ DVL γ w ds us ∧ ∀ u ∈ us, u.oneCell' = true := by
  induction ds generalizing off n with
  | nil => exact ⟨[], by simpa using hn, fun j v hv => by simp at hv, DVL.nil, by simp⟩
  | cons d ds ih =>
    subst hn
    obtain ⟨c, h1, h2, h3⟩ := hds 0 d rfl
    rw [List.getElem?_drop, Nat.add_zero] at h1
    obtain ⟨u, e1, e2, e3⟩ := cell_at H hst h1 h2 hd
    obtain ⟨us, e4, e5, e6, e7⟩ := ih (off := off + 1) (n := ds.length) (by omega) rfl (fun i d' hi => by
      obtain ⟨c', h4, h5⟩ := hds (i + 1) d' (by simpa using hi)
      refine ⟨c', ?_, h5⟩
      rw [List.getElem?_drop] at h4 ⊢
      rw [show off + 1 + i = off + (i + 1) by omega]; exact h4)
    refine ⟨u :: us, by simp [e4], fun j v hv => ?_, DVL.cons (by rw [← h3]; exact e2) e6, fun x hx => ?_⟩
    · cases j with
      | zero => simp at hv; subst hv; exact e1
      | succ j =>
        have := e5 j v (by simpa using hv)
        rw [show off + 1 - (γ.β id st).2 + j = off - (γ.β id st).2 + (j + 1) by omega] at this
        exact this
    · rcases List.mem_cons.1 hx with rfl | hx
      · exact e3
      · exact e7 x hx
theorem run_loadVar_row' {t : TypeId} {n : Nat} (h1 : isRow P t = some true) (h2 : szOf P t = some n) {b o : Nat} {vs : List Value} (hv : w.rangeAt b o vs) (hn : vs.length = n) :
    (loadVar t ⟨b, o, none⟩).run P w = .ok (.agg vs.toArray) w := by
  subst hn
  have hl : (loadCells ⟨b, o, none⟩ vs.length).run P w = .ok vs.toArray w :=
    run_loadCells_list (P := P) w ⟨b, o, none⟩ vs (fun j v hj => by rw [Addr.add_mid]; exact hv j v hj)
  simp only [loadVar, Sem.run_bind, run_isAgg h1, Result.andThen_ok, if_true, run_sizeOf' h2, hl]
  rfl
theorem run_loadVar_one {t : TypeId} (h1 : isRow P t = some false) {ad : Addr} {v : Value} (hv : w.cell? ad = some v) :
    (loadVar t ad).run P w = .ok v w := by
  simp [loadVar, Sem.run_bind, run_isAgg h1, hv]
theorem run_storeVar' {t : TypeId} {b o : Nat} {v : Value} (h2 : szOf P t = some v.cells.size) (ht : w.there b o v.cells.size) (h1 : ∀ u ∈ v.cells.toList, u.oneCell' = true) :
    (storeVar t ⟨b, o, none⟩ v).run P w = .ok () (w.setCells b o v.cells.toList) := by
  have := run_storeCells_cells (P := P) b o v.cells.toList 0 w (fun j hj => by simpa using (ht j (by simpa using hj)).1) (fun j hj => by simpa using (ht j (by simpa using hj)).2) h1
  simp only [Nat.add_zero] at this
  simp [storeVar, run_sizeOf' h2, this]
theorem run_load' {t : TypeId} {x : Operand} (ho : o.op = .load t x) {ad : Addr} (hx : a.eval x = .pointer (some ad)) {u : Value} (hl : (loadVar t ad).run P w = .ok u w) :
    (execOp a.eval o).run P w = .ok (.value u) w := by
  simp [execOp, ho, hx, Instr.loadAt, Instr.sureAddr, hl]
theorem run_store' {t : TypeId} {x y : Operand} (ho : o.op = .store t x y) {w' : World} {ad : Addr} (hx : a.eval x = .pointer (some ad)) (hl : (storeVar t ad (a.eval y)).run P w = .ok () w') :
    (execOp a.eval o).run P w = .ok .skip w' := by
  simp [execOp, ho, hx, Instr.storeAt, Instr.sureAddr, hl]
theorem ld1_ok {t : TypeId} {x : Operand} {d : Pos} {r : RX} {Z : X} (ho : o.op = .load t x) (hd : o.dst = some d.ix) (hlt : d.ix < nt) (hx : rx x = some r) (ht : isRow P t = some false) (h : s_ld1 d r sl ob nx lg = some Z) : OpOk P nt o r.ss ⟨sl, ob, nx, lg⟩ Z := by
  unfold s_ld1 at h
  split at h
  · rename_i id off st hv
    split at h
    · rename_i q cs cur hob
      split at h
      · rename_i c hc
        obtain ⟨h1, h2⟩ := cellK_ok h
        obtain ⟨lg', h3, h4, h5⟩ := logR_ok h2
        rw [outK_eq h3]
        rw [nthC_eq] at hc
        refine OpOk.pure hd hlt h4 fun V hs hto γ a w R => ?_
        obtain ⟨e1, e2, e3⟩ := DV_pt (opd_ok hx hv R hs)
        obtain ⟨u, e4, e5, e6⟩ := cell_at (R.ob id _ (hto id h5) hob) e1 hc h1 e2
        exact ⟨u, run_load' ho e3 (run_loadVar_one ht e4), e5⟩
      · cases h
    · cases h
  · rename_i r' k hv
    split at h
    · rename_i v hc
      rw [outK_eq h]
      rw [nthC_eq] at hc
      refine OpOk.pure hd hlt (LgLe.refl _) fun V hs hto γ a w R => ?_
      obtain ⟨b, q, vs, e, fr, k1, k2, e3, k4, k5, k6⟩ := DV_pl (opd_ok hx hv R hs)
      obtain ⟨l1, l2⟩ := DVL_iff.1 k5
      have hlt : k < r'.length := (List.getElem?_eq_some_iff.1 hc).1
      have hq : q + k < vs.size := by omega
      refine ⟨vs[q + k], run_load' ho e3 (run_loadVar_one ht ?_), l2 k _ _ hc ?_⟩
      · unfold World.cell?
        simp [k2, hq]
      · rw [List.getElem?_take_of_lt hlt, List.getElem?_drop]
        simp [hq]
    · cases h
  · cases h
theorem ldn_ok {t : TypeId} {x : Operand} {n : Nat} {d : Pos} {r : RX} {Z : X} (ho : o.op = .load t x) (hd : o.dst = some d.ix) (hlt : d.ix < nt) (hx : rx x = some r) (ht : isRow P t = some true) (hn : szOf P t = some n) (h : s_ldn d r n sl ob nx lg = some Z) : OpOk P nt o r.ss ⟨sl, ob, nx, lg⟩ Z := by
  unfold s_ldn at h
  split at h
  · rename_i id off st hv
    split at h
    · rename_i q cs cur hob
      obtain ⟨ds, h1, h2, h6⟩ := readK_ok h
      obtain ⟨lg', h3, h4, h5⟩ := logR_ok h1
      rw [outK_eq h3]
      rw [dropC_eq] at h6
      refine OpOk.pure hd hlt h4 fun V hs hto γ a w R => ?_
      obtain ⟨e1, e2, e3⟩ := DV_pt (opd_ok hx hv R hs)
      obtain ⟨us, e4, e5, e6, e7⟩ := cells_at (R.ob id _ (hto id h5) hob) e1 e2 h2 h6
      refine ⟨.agg us.toArray, run_load' ho e3 (run_loadVar_row' ht hn e5 e4), ?_⟩
      unfold DV
      exact ⟨_, rfl, e6, e7⟩
    · cases h
  · rename_i r' k hv
    obtain ⟨h1, h2⟩ := takeK_ok h
    rw [dropC_eq] at h1 h2
    rw [outK_eq h2]
    refine OpOk.pure hd hlt (LgLe.refl _) fun V hs hto γ a w R => ?_
    obtain ⟨b, q, vs, e, fr, k1, k2, e3, k4, k5, k6⟩ := DV_pl (opd_ok hx hv R hs)
    simp only [List.length_drop] at h1
    have l1 := (k5.drop k).take n
    have hsub : (((vs.toList.drop q).take r'.length).drop k).take n = (vs.toList.drop (q + k)).take n := by
      rw [List.drop_take, List.take_take, List.drop_drop]
      rw [Nat.min_def]
      split
      · rfl
      · have : n = 0 := by omega
        omega
    refine ⟨.agg ((vs.toList.drop (q + k)).take n).toArray, run_load' ho e3 (run_loadVar_row' ht hn (fun j u hu => ?_) ?_), ?_⟩
    · have hj : j < n := by have := (List.getElem?_eq_some_iff.1 hu).1; simp at this; omega
      rw [List.getElem?_take_of_lt hj, List.getElem?_drop] at hu
      unfold World.cell?
      simp [k2] at hu ⊢
      rw [← hu]
    · simp; omega
    · unfold DV
      refine ⟨_, rfl, ?_, fun u hu => ?_⟩
      · rw [hsub] at l1; simpa using l1
      · refine k6 u ?_
        rw [← hsub] at hu
        simp only [List.toList_toArray] at hu
        exact List.mem_of_mem_drop (List.mem_of_mem_take hu)
  · cases h
theorem write_hold {id : Pos} {cs : List Cell} {cur st off : Nat} {mk : D → Cell} {new : List D} {nv : List Value} (g : G ro γ a w) (H : HoldsO P γ w id (.cells false cs cur)) (hst : st < γ.cur id) (hd : (γ.β id st).2 ≤ off) (hpos : 0 < new.length)
    (hle : off + new.length ≤ cs.length) (hsee : ∀ i, i < new.length → ∃ c, cs[off + i]? = some c ∧ c.has st = true) (hnv : DVL γ w new nv) (h1 : ∀ u ∈ nv, u.oneCell' = true)
    (hmk : (mk = (fun d => .o d st) ∧ st + 1 = cur) ∨ mk = (fun d => .c d st st)) :
    ∃ vs e, w.heap[(γ.β id st).1]? = some (.cells vs e (0, 0)) ∧ off - (γ.β id st).2 + nv.length ≤ vs.size ∧
      (Fr (fun j => j = id) γ γ w (w.setCells (γ.β id st).1 (off - (γ.β id st).2) nv) ∧ (∀ a' : Act, a'.defers = a.defers → G ro γ a' (w.setCells (γ.β id st).1 (off - (γ.β id st).2) nv)) ∧
        HoldsO P γ (w.setCells (γ.β id st).1 (off - (γ.β id st).2) nv) id (.cells false (cs.take off ++ (new.map mk ++ cs.drop (off + new.length))) cur)) := by
  obtain ⟨h2, h3, h4⟩ := H
  obtain ⟨vs, e, fr, h5, h6, h7⟩ := h4 st (by omega)
  obtain rfl := h6 rfl
  have hnl : nv.length = new.length := (DVL_iff.1 hnv).1.symm
  have hroom : off - (γ.β id st).2 + nv.length ≤ vs.size := by
    obtain ⟨c, hc, hh⟩ := hsee (new.length - 1) (by omega)
    obtain ⟨u, h8, _⟩ := h7 _ c hc hh (by omega)
    have := (Array.getElem?_eq_some_iff.1 h8).1
    omega
  obtain ⟨F, g'⟩ := same_all (w' := w.setCells (γ.β id st).1 (off - (γ.β id st).2) nv) g id (by rw [size_setCells]; exact Nat.le_refl _)
    (fun c hc hn => heap_setCells_ne nv w _ _ (fun e => hn st hst e.symm)) (shape_setCells h5 hroom) (loop_setCells h5) (os_setCells nv w _ _) (fun x => World.frozen?_setCells _ _ _ _ x)
  refine ⟨vs, e, h5, hroom, F, g', h2, h3, fun s hs => ?_⟩
  obtain ⟨vs2, e2, fr2, k1, k2, k3⟩ := h4 s hs
  have hs' : s < γ.cur id := by omega
  -- the new list, by places
  have hat : ∀ p, (cs.take off ++ (new.map mk ++ cs.drop (off + new.length)))[p]? = if p < off then cs[p]? else if p < off + new.length then (new[p - off]?).map mk else cs[p]? := by
    intro p
    have := splice_at (l := cs) (new := new.map mk) (o := off) (by simpa using hle) p
    unfold splice at this
    rw [List.append_assoc] at this
    simpa using this
  by_cases hb : (γ.β id s).1 = (γ.β id st).1
  · have hδ : (γ.β id s).2 = (γ.β id st).2 := (g.inj id s id st hs' hst hb).2
    rw [hb, h5] at k1
    cases k1
    refine ⟨_, e, (0, 0), by rw [hb]; exact heap_setCells_self nv h5 hroom, fun _ => rfl, fun p c hp hh hdp => ?_⟩
    rw [hat] at hp
    rw [hδ] at hdp k3 ⊢
    have hsp : (splice vs.toList (off - (γ.β id st).2) nv).toArray[p - (γ.β id st).2]? = (splice vs.toList (off - (γ.β id st).2) nv)[p - (γ.β id st).2]? := by simp
    rw [hsp, splice_at (by simpa using hroom)]
    by_cases hp1 : p < off
    · rw [if_pos hp1] at hp
      rw [if_pos (by omega)]
      obtain ⟨u, q1, q2, q3⟩ := k3 p c hp hh hdp
      exact ⟨u, by simpa using q1, DV.mono F.up _ _ q2, q3⟩
    · rw [if_neg hp1] at hp
      rw [if_neg (by omega)]
      by_cases hp2 : p < off + new.length
      · rw [if_pos hp2] at hp
        rw [if_pos (by omega)]
        cases hd2 : new[p - off]? with
        | none => rw [hd2] at hp; cases hp
        | some d =>
          rw [hd2] at hp
          cases hp
          have hlt : p - off < nv.length := by have := (List.getElem?_eq_some_iff.1 hd2).1; omega
          refine ⟨nv[p - off], by rw [show p - (γ.β id st).2 - (off - (γ.β id st).2) = p - off by omega]; exact List.getElem?_eq_getElem hlt, ?_, h1 _ (List.getElem_mem _)⟩
          have := (DVL_iff.1 hnv).2 (p - off) d _ hd2 (List.getElem?_eq_getElem hlt)
          rcases hmk with ⟨rfl, _⟩ | rfl <;> exact DV.mono F.up _ _ this
      · rw [if_neg hp2] at hp
        rw [if_neg (by omega)]
        obtain ⟨u, q1, q2, q3⟩ := k3 p c hp hh hdp
        exact ⟨u, by simpa using q1, DV.mono F.up _ _ q2, q3⟩
  · refine ⟨vs2, e2, fr2, by rw [heap_setCells_ne nv w _ _ hb]; exact k1, k2, fun p c hp hh hdp => ?_⟩
    rw [hat] at hp
    by_cases hp1 : p < off
    · rw [if_pos hp1] at hp
      obtain ⟨u, q1, q2, q3⟩ := k3 p c hp hh hdp
      exact ⟨u, q1, DV.mono F.up _ _ q2, q3⟩
    · rw [if_neg hp1] at hp
      by_cases hp2 : p < off + new.length
      · rw [if_pos hp2] at hp
        exfalso
        apply hb
        have : s = st := by
          cases hd2 : new[p - off]? with
          | none => rw [hd2] at hp; cases hp
          | some d =>
            rw [hd2] at hp
            cases hp
            rcases hmk with ⟨rfl, hc⟩ | rfl
            · have := Nat.le_of_ble_eq_true hh
              omega
            · have hh : (Nat.ble st s && Nat.ble s st) = true := hh
              rw [Bool.and_eq_true] at hh
              have := Nat.le_of_ble_eq_true hh.1
              have := Nat.le_of_ble_eq_true hh.2
              omega
        rw [this]
      · rw [if_neg hp2] at hp
        obtain ⟨u, q1, q2, q3⟩ := k3 p c hp hh hdp
        exact ⟨u, q1, DV.mono F.up _ _ q2, q3⟩
theorem objK_eq {id : Pos} {c : C} {Z : X} (h : objK sl ob nx lg id c = some Z) : ∃ lg', Z = ⟨sl, T.set id c ob, nx, lg'⟩ ∧ LgLe lg lg' ∧ wrtn lg' id := by
  unfold objK at h
  obtain ⟨lg', h1, h2, h3⟩ := logW_ok h
  rw [T.setK_eq] at h1
  cases h1
  exact ⟨lg', rfl, h2, h3⟩
theorem objOutK_eq {id : Pos} {c : C} {d : Pos} {v : D} {Z : X} (h : objOutK sl ob nx lg id c d v = some Z) : ∃ lg', Z = ⟨T.set d v sl, T.set id c ob, nx, lg'⟩ ∧ LgLe lg lg' ∧ wrtn lg' id := by
  unfold objOutK at h
  obtain ⟨lg', h1, h2, h3⟩ := logW_ok h
  rw [T.setK_eq] at h1
  exact ⟨lg', outK_eq h1, h2, h3⟩
theorem st_ok {t : TypeId} {x y : Operand} {n : Nat} {r1 r2 : RX} {Z : X} (ho : o.op = .store t x y) (hd : o.dst = none) (hx : rx x = some r1) (hy : rx y = some r2) (hn : szOf P t = some (n + 1)) (h : s_st r1 r2 (n + 1) sl ob nx lg = some Z) : OpOk P nt o (r1.ss ++ r2.ss) ⟨sl, ob, nx, lg⟩ Z := by
  unfold s_st at h
  split at h
  · rename_i id off st v hv hw
    split at h
    · rename_i cs cur ds hob hds
      cases hb : Nat.beq ds.length (n + 1) with
      | false => rw [hb] at h; cases h
      | true =>
        rw [hb] at h
        simp only [cond_true] at h
        have hdn := Nat.eq_of_beq_eq_true hb
        have key : ∀ mk : D → Cell, ((mk = (fun d => .o d st) ∧ st + 1 = cur) ∨ mk = (fun d => .c d st st)) → writeK st mk ds off cs (fun cs => objK sl ob nx lg id (.cells false cs cur)) = some Z → OpOk P nt o (r1.ss ++ r2.ss) ⟨sl, ob, nx, lg⟩ Z := by
          intro mk hmk h
          obtain ⟨h1, h2, h3⟩ := writeK_ok h
          obtain ⟨lg', rfl, h4, h5⟩ := objK_eq h2
          refine OpOk.skip hd h4 ((Keeps.refl _ _).set h5 _) fun V hs hto ro γ a w g R => ?_
          obtain ⟨e1, e2, e3⟩ := DV_pt (opd_ok hx hv R fun s h => hs s (by simp [h]))
          obtain ⟨c1, c2⟩ := cellsD_ok (opd_ok hy hw R fun s h => hs s (by simp [h])) hds
          have hvl : (a.eval y).cells.size = n + 1 := by have := (DVL_iff.1 c1).1; simp at this; omega
          obtain ⟨vs, e, q1, q2, F, g', H'⟩ := write_hold g (R.ob id _ (hto id h5.tchd) hob) e1 e2 (by omega) h1 h3 c1 c2 hmk
          have hsv := run_storeVar' (P := P) (t := t) (w := w) (b := (γ.β id st).1) (o := off - (γ.β id st).2) (v := a.eval y) (by rw [hn, hvl]) (fun j hj => by
            have hj2 : off - (γ.β id st).2 + j < vs.size := by simp at q2; omega
            exact ⟨by simp [World.cell?, q1, hj2], by simp [World.frozen?, q1]⟩) c2
          exact ⟨_, .inl (run_store' ho e3 hsv), F.mono (fun j e => by rw [e]; exact h5), g', others_hold R g F fun _ => H'⟩
        cases hb2 : Nat.beq (Nat.succ st) cur with
        | true =>
          rw [hb2] at h
          exact key _ (.inl ⟨rfl, Nat.eq_of_beq_eq_true hb2⟩) h
        | false =>
          rw [hb2] at h
          exact key _ (.inr rfl) h
    · cases h
  · cases h
end
end Go.Ev
namespace Go.Ev
open Go.RowKit (Below)
section
variable {P : Program} {V : Sel} {γ : Gh} {a : Act} {w : World} {sl : T D} {ob : T C} {nx : Pos} {lg : Option (T Bool)} {nt : Nat} {o : Oper} {ro : Option Nat}
theorem logO_ok {id : Option Pos} {k : Option (T Bool) → Option X} {Z : X} (h : logO lg id k = some Z) : ∃ lg', k lg' = some Z ∧ LgLe lg lg' ∧ ∀ j, id = some j → tchd lg' j := by
  cases id with
  | none => exact ⟨lg, h, LgLe.refl _, fun j e => by cases e⟩
  | some i =>
    obtain ⟨lg', h1, h2, h3⟩ := logR_ok h
    exact ⟨lg', h1, h2, fun j e => by cases e; exact h3⟩
theorem srcK_ok {z : Nat} {y : D} {k : Option Pos → Nat → List D → Option X} {Z : X} (h : srcK ob z y k = some Z) :
    ∃ idy n ds, k idy n ds = some Z ∧ ds.length = n * z ∧ ∀ {V : Sel} {γ : Gh} {a : Act} {w : World} {v : Value}, Rep P V γ a w ⟨sl, ob, nx, lg⟩ → (∀ j, idy = some j → V.so j) → DV γ w y v → ∀ {tx e' : TypeId}, P.underlying tx = some (.slice e') →
      ∃ us : List Value, Src P z tx v n us w ∧ DVL γ w ds us ∧ (∃ ad cap, v = .slice ad n cap) ∧ ∀ u ∈ us, u.oneCell' = true := by
  unfold srcK at h
  split at h
  · refine ⟨none, 0, [], h, by simp, fun {V γ a w v} R _ hv {tx e'} hu => ⟨[], ?_, DVL.nil, ?_, by simp⟩⟩
    · unfold DV at hv; subst hv; exact Src.ofNil w hu 0
    · unfold DV at hv; exact ⟨none, 0, hv⟩
  · refine ⟨none, 0, [], h, by simp, fun {V γ a w v} R _ hv {tx e'} hu => ?_⟩
    unfold DV at hv
    obtain ⟨ad, rfl⟩ := hv
    exact ⟨[], Src.ofSlice w hu ad 0 0 [] (by simp) (by simp) (by simp), DVL.nil, ⟨_, _, rfl⟩, by simp⟩
  · rename_i id off len st z'
    cases hb : Nat.beq z z' with
    | false => rw [hb] at h; cases h
    | true =>
      rw [hb] at h
      simp only [cond_true] at h
      obtain rfl := Nat.eq_of_beq_eq_true hb
      split at h
      · rename_i q cs cur hob
        obtain ⟨ds, h1, h2, h3⟩ := readK_ok h
        rw [dropC_eq] at h3
        refine ⟨some id, len, ds, h1, h2, fun {V γ a w v} R hj hv {tx e'} hu => ?_⟩
        obtain ⟨e1, e2, cap, e, n, rfl, e4, e5, e6⟩ := DV_sl hv
        obtain ⟨us, q1, q2, q3, q4⟩ := cells_at (R.ob id _ (hj id rfl) hob) e1 e2 h2 h3
        refine ⟨us, Src.ofSlice w hu ⟨_, _, none⟩ len cap us q1 (fun j u hu => by rw [Addr.add_mid]; exact q2 j u hu) q4, q3, ⟨_, _, rfl⟩, q4⟩
      · cases h
  · rename_i z' es
    cases hb : (Nat.beq z z' && Nat.beq (List.length (List.flatten es)) (Nat.mul (List.length es) z)) with
    | false => rw [hb] at h; cases h
    | true =>
      rw [hb] at h
      simp only [cond_true] at h
      rw [Bool.and_eq_true] at hb
      obtain rfl := Nat.eq_of_beq_eq_true hb.1
      have hlen : es.flatten.length = es.length * z := Nat.eq_of_beq_eq_true hb.2
      refine ⟨none, es.length, es.flatten, h, hlen, fun {V γ a w v} R _ hv {tx e'} hu => ?_⟩
      obtain ⟨p, cap, rfl, e4, e6, e5⟩ := DV_lst hv
      rcases e5 with rfl | ⟨b, o, vs, e, fr, k1, k2, rfl, k4, k5, k6⟩
      · cases p with
        | none =>
          obtain rfl := e6 rfl
          exact ⟨[], Src.ofNil w hu 0, DVL.nil, ⟨_, _, rfl⟩, by simp⟩
        | some ad => exact ⟨[], Src.ofSlice w hu ad 0 cap [] (by simp) (by simp) (by simp), DVL.nil, ⟨_, _, rfl⟩, by simp⟩
      · have hl2 : ((vs.toList.drop o).take (es.length * z)).length = es.length * z := by simp; omega
        refine ⟨(vs.toList.drop o).take (es.length * z), Src.ofSlice w hu ⟨b, o, none⟩ es.length cap _ hl2 (fun j u hu => ?_) k6, DVE_flat k5, ⟨_, _, rfl⟩, k6⟩
        have hj : j < es.length * z := by have := (List.getElem?_eq_some_iff.1 hu).1; rw [hl2] at this; exact this
        rw [List.getElem?_take_of_lt hj, List.getElem?_drop] at hu
        rw [Addr.add_mid]
        unfold World.cell?
        simp [k2] at hu ⊢
        exact hu
  · cases h
theorem grow_new (g : G ro γ a w) (id : Pos) (δ : Nat) (obj : Obj) (hobj : ∀ vs e fr, obj = .cells vs e fr → fr = (0, 0)) : Fr (fun j => j = id) γ (γ.push id (w.heap.size, δ)) w (w.drew.alloc obj) ∧ ∀ a' : Act, a'.defers = a.defers → G ro (γ.push id (w.heap.size, δ)) a' (w.drew.alloc obj) :=
  push_all g id w.heap.size δ (by rw [size_alloc']; show _ ≤ w.heap.size + 1; omega) (.inl ⟨Nat.le_refl _, by rw [size_alloc']; show _ < w.heap.size + 1; omega⟩) (fun c hc _ => heap_alloc_lt w.drew obj hc)
    (fun c x hx => by rw [shape_same (heap_alloc_lt w.drew obj (shape_lt hx))]; exact hx)
    (fun c r hr => ⟨r, by rw [heap_alloc_lt w.drew obj (Array.getElem?_eq_some_iff.1 hr).1]; exact hr⟩) ⟨rfl, rfl, rfl⟩ (fun x => frozen_alloc w.drew obj hobj x)
theorem run_builtin {b : Builtin} {args : Array Operand} {tys : Array TypeId} (ho : o.op = .call { callee := .builtin b, args := args, argTypes := tys }) (a : Act) (w : World) :
    ∃ cs, (execOp a.eval o).run P w = (builtin b tys o.type cs (args.map a.eval)).run P w := by
  exact ⟨args.map fun | .const _ => true | _ => false, by
    simp only [execOp, ho, resolve, Sem.run_bind, Sem.run_pure, Result.andThen_ok, invoke]
    congr⟩
theorem run_append {args : Array Operand} {t tx : TypeId} {x y : Operand} (ho : o.op = .call { callee := .builtin .append, args := args, argTypes := #[t, tx] }) (ha : args = #[x, y]) {v : Value} {w' : World}
    (h : (Builtin.append_ #[t, tx] o.type #[a.eval x, a.eval y]).run P w = .ok v w') : (execOp a.eval o).run P w = .ok (.value v) w' := by
  subst ha
  obtain ⟨cs, h1⟩ := run_builtin (P := P) ho a w
  rw [h1]
  simp [builtin, h]
theorem fresh_rows {ds : List D} {us : List Value} {el : TypeId} {k cap z : Nat} (g : G ro γ a w) (R : Rep P V γ a w ⟨sl, ob, nx, lg⟩) (hso : V.so nx) (h0 : γ.cur nx = 0) (hds : DVL γ w ds us) (h1 : ∀ u ∈ us, u.oneCell' = true) (hk : us.length = k * z) (hcap : k ≤ cap)
    {rest : Array Value} (hrest : rest.size = (cap - k) * z) :
    ∃ γ', Fr (fun j => j = nx) γ γ' w (w.drew.alloc (.cells (us.toArray ++ rest) el)) ∧ (∀ a' : Act, a'.defers = a.defers → G ro γ' a' (w.drew.alloc (.cells (us.toArray ++ rest) el))) ∧
      DV γ' (w.drew.alloc (.cells (us.toArray ++ rest) el)) (.sl nx 0 k 0 z) (.slice (some ⟨w.heap.size, 0, none⟩) k cap) ∧
      (∀ id c, V.so id → (T.set nx (.cells false (ds.map fun d => .o d 0) 1) ob).get id = some c → HoldsO P γ' (w.drew.alloc (.cells (us.toArray ++ rest) el)) id c) ∧ (∀ id, V.so id → nx.succ.nat ≤ id.nat → γ'.cur id = 0) := by
  obtain ⟨F, g'⟩ := grow_new g nx 0 (.cells (us.toArray ++ rest) el) (fun vs e fr h => by cases h; rfl)
  have hb := γ.push_β nx (w.heap.size, 0)
  rw [h0] at hb
  have hcur : (γ.push nx (w.heap.size, 0)).cur nx = 1 := by rw [γ.push_cur, h0]
  have hh : (w.drew.alloc (.cells (us.toArray ++ rest) el)).heap[w.heap.size]? = some (.cells (us.toArray ++ rest) el) := heap_alloc_self w.drew _
  refine ⟨_, F, g', ?_, others_hold R g F fun _ => ?_, fun id hid hle => ?_⟩
  · unfold DV
    rw [hb, hcur]
    refine ⟨Nat.one_pos, Nat.le_refl _, cap, el, _, rfl, hcap, shape_cells hh, ?_⟩
    simp only [Array.size_append, List.size_toArray, hk, hrest, Nat.sub_zero, Nat.zero_add]
    rw [← Nat.add_mul]
    exact Nat.mul_le_mul_right _ (by omega)
  · refine ⟨Nat.one_pos, hcur, fun st hst => ?_⟩
    obtain rfl : st = 0 := by omega
    rw [hb]
    refine ⟨_, el, (0, 0), hh, fun _ => rfl, fun p c hp _ _ => ?_⟩
    rw [List.getElem?_map] at hp
    cases hd : ds[p]? with
    | none => rw [hd] at hp; cases hp
    | some d =>
      rw [hd] at hp
      cases hp
      obtain ⟨h2, h3⟩ := DVL_iff.1 hds
      have hlt : p < us.length := by have := (List.getElem?_eq_some_iff.1 hd).1; omega
      refine ⟨us[p], ?_, DV.mono F.up _ _ (h3 p d _ hd (List.getElem?_eq_getElem hlt)), h1 _ (List.getElem_mem _)⟩
      rw [Nat.sub_zero, Array.getElem?_append_left (by simpa using hlt)]
      simp [hlt]
  · rw [Pos.succ_nat] at hle
    have hne : id ≠ nx := by rintro rfl; omega
    rw [γ.push_cur_ne _ hne]
    exact R.nx id hid (by show nx.nat ≤ id.nat; omega)
theorem zeroCells_size (z : Array Value) (n : Nat) : (Builtin.zeroCells z n).size = n * z.size := by simp [Builtin.zeroCells]
theorem append_room {id : Pos} {cs : List Cell} {cur st n : Nat} {ds : List D} {us : List Value} (g : G ro γ a w) (H : HoldsO P γ w id (.cells false cs cur)) (hst : st < γ.cur id) (hd : (γ.β id st).2 ≤ n) (hn : n ≤ cs.length) (hop : OpenTo st (cs.take n))
    (hds : DVL γ w ds us) (h1 : ∀ u ∈ us, u.oneCell' = true) {e : TypeId} {sz : Nat} (hsh : w.shape? (γ.β id st).1 = some (e, sz)) (hroom : n - (γ.β id st).2 + us.length ≤ sz) :
    ∃ γ', γ' = γ.push id (γ.β id st) ∧ Fr (fun j => j = id) γ γ' w (w.setCells (γ.β id st).1 (n - (γ.β id st).2) us) ∧ (∀ a' : Act, a'.defers = a.defers → G ro γ' a' (w.setCells (γ.β id st).1 (n - (γ.β id st).2) us)) ∧
      HoldsO P γ' (w.setCells (γ.β id st).1 (n - (γ.β id st).2) us) id (.cells false (cs.take n ++ (ds.map (fun d => .o d cur) ++ (cs.drop (n + ds.length)).map (shutC (cur - 1)))) (cur + 1)) ∧
      (∀ j, j < us.length → (w.cell? ⟨(γ.β id st).1, n - (γ.β id st).2 + j, none⟩).isSome = true) ∧ (∀ j, j < us.length → w.frozen? ⟨(γ.β id st).1, n - (γ.β id st).2 + j, none⟩ = false) := by
  obtain ⟨h2, h3, h4⟩ := H
  obtain ⟨vs, e', fr, h5, h6, h7⟩ := h4 st (by omega)
  obtain rfl := h6 rfl
  have hsz : vs.size = sz := by
    rw [shape_cells h5] at hsh
    cases hsh; rfl
  subst hsz
  have hlen : us.length = ds.length := (DVL_iff.1 hds).1.symm
  have key := push_all (w' := w.setCells (γ.β id st).1 (n - (γ.β id st).2) us) (b := (γ.β id st).1) (δ := (γ.β id st).2) g id (by rw [size_setCells]; exact Nat.le_refl _) (.inr ⟨st, hst, rfl⟩)
    (fun c hc hn => heap_setCells_ne us w _ _ (fun e => hn st hst e.symm)) (shape_setCells h5 hroom) (loop_setCells h5) (os_setCells us w _ _) (fun x => World.frozen?_setCells _ _ _ _ x)
  obtain ⟨F, g'⟩ := key
  refine ⟨_, rfl, F, g', ⟨by omega, by rw [γ.push_cur, h3], fun s hs => ?_⟩, fun j hj => ?_, fun j hj => ?_⟩
  · have hat : ∀ p : Nat, (cs.take n ++ (ds.map (fun d => Cell.o d cur) ++ (cs.drop (n + ds.length)).map (shutC (cur - 1))))[p]? = if p < n then cs[p]? else if p < n + ds.length then (ds[p - n]?).map (fun d => Cell.o d cur) else (cs[p]?).map (shutC (cur - 1)) := by
      intro p
      by_cases hp : p < n
      · rw [if_pos hp, List.getElem?_append_left (by simp; omega), List.getElem?_take_of_lt hp]
      · rw [if_neg hp, List.getElem?_append_right (by simp; omega)]
        have hl : (cs.take n).length = n := by simp; omega
        rw [hl]
        by_cases hp2 : p < n + ds.length
        · rw [if_pos hp2, List.getElem?_append_left (by simp; omega), List.getElem?_map]
        · rw [if_neg hp2, List.getElem?_append_right (by simp; omega), List.getElem?_map, List.getElem?_drop]
          congr 2; simp; omega
    have hself := heap_setCells_self us h5 hroom
    have hsp : ∀ i : Nat, (splice vs.toList (n - (γ.β id st).2) us).toArray[i]? = (splice vs.toList (n - (γ.β id st).2) us)[i]? := by intro i; simp
    -- an old claim, in the block that was written
    have old : ∀ s0, s0 < γ.cur id → (γ.β id s0).1 = (γ.β id st).1 → ∀ (p : Nat) c, cs[p]? = some c → c.has s0 = true → (γ.β id st).2 ≤ p → (p < n ∨ n + ds.length ≤ p) → ∃ u, (splice vs.toList (n - (γ.β id st).2) us)[p - (γ.β id st).2]? = some u ∧ DV (γ.push id (γ.β id st)) (w.setCells (γ.β id st).1 (n - (γ.β id st).2) us) c.d u ∧ u.oneCell' = true := by
      intro s0 hs0 hb p c hp hh hdp hpos
      obtain ⟨vs2, e2, fr2, k1, k2, k3⟩ := h4 s0 (by omega)
      have hδ : (γ.β id s0).2 = (γ.β id st).2 := (g.inj id s0 id st hs0 hst hb).2
      rw [hb, h5] at k1
      cases k1
      rw [hδ] at k3
      obtain ⟨u, q1, q2, q3⟩ := k3 p c hp hh hdp
      refine ⟨u, ?_, DV.mono F.up _ _ q2, q3⟩
      rw [splice_at (by simpa using hroom)]
      rcases hpos with hpos | hpos
      · rw [if_pos (by omega)]; simpa using q1
      · rw [if_neg (by omega), if_neg (by omega)]; simpa using q1
    rcases Nat.lt_succ_iff_lt_or_eq.1 hs with hs | hs
    · have hs' : s < γ.cur id := by omega
      rw [γ.push_β_old id _ hs']
      by_cases hb : (γ.β id s).1 = (γ.β id st).1
      · have hδ : (γ.β id s).2 = (γ.β id st).2 := (g.inj id s id st hs' hst hb).2
        refine ⟨_, e', (0, 0), by rw [hb]; exact hself, fun _ => rfl, fun p c hp hh hdp => ?_⟩
        rw [hat] at hp
        rw [hδ] at hdp ⊢
        rw [hsp]
        by_cases hp1 : p < n
        · rw [if_pos hp1] at hp
          exact old s hs' hb p c hp hh hdp (.inl hp1)
        · rw [if_neg hp1] at hp
          by_cases hp2 : p < n + ds.length
          · rw [if_pos hp2] at hp
            cases hd2 : ds[p - n]? with
            | none => rw [hd2] at hp; cases hp
            | some d =>
              rw [hd2] at hp
              cases hp
              have := Nat.le_of_ble_eq_true hh
              omega
          · rw [if_neg hp2] at hp
            cases hc : cs[p]? with
            | none => rw [hc] at hp; cases hp
            | some c0 =>
              rw [hc] at hp
              cases hp
              rw [shutC_d]
              exact old s hs' hb p c0 hc (shutC_has hh).1 hdp (.inr (by omega))
      · obtain ⟨vs2, e2, fr2, k1, k2, k3⟩ := h4 s hs
        refine ⟨vs2, e2, fr2, by rw [heap_setCells_ne us w _ _ hb]; exact k1, k2, fun p c hp hh hdp => ?_⟩
        rw [hat] at hp
        by_cases hp1 : p < n
        · rw [if_pos hp1] at hp
          obtain ⟨u, q1, q2, q3⟩ := k3 p c hp hh hdp
          exact ⟨u, q1, DV.mono F.up _ _ q2, q3⟩
        · rw [if_neg hp1] at hp
          by_cases hp2 : p < n + ds.length
          · rw [if_pos hp2] at hp
            cases hd2 : ds[p - n]? with
            | none => rw [hd2] at hp; cases hp
            | some d =>
              rw [hd2] at hp
              cases hp
              have := Nat.le_of_ble_eq_true hh
              omega
          · rw [if_neg hp2] at hp
            cases hc : cs[p]? with
            | none => rw [hc] at hp; cases hp
            | some c0 =>
              rw [hc] at hp
              cases hp
              rw [shutC_d]
              obtain ⟨u, q1, q2, q3⟩ := k3 p c0 hc (shutC_has hh).1 hdp
              exact ⟨u, q1, DV.mono F.up _ _ q2, q3⟩
    · obtain rfl : s = γ.cur id := by omega
      rw [γ.push_β]
      refine ⟨_, e', (0, 0), hself, fun _ => rfl, fun p c hp hh hdp => ?_⟩
      rw [hat] at hp
      rw [hsp]
      by_cases hp1 : p < n
      · rw [if_pos hp1] at hp
        obtain ⟨d, lo, rfl, hlo⟩ := hop c (by
          rw [List.mem_iff_getElem?]
          exact ⟨p, by rw [List.getElem?_take_of_lt hp1]; exact hp⟩)
        exact old st hst rfl p _ hp (Nat.ble_eq_true_of_le hlo) hdp (.inl hp1)
      · rw [if_neg hp1] at hp
        by_cases hp2 : p < n + ds.length
        · rw [if_pos hp2] at hp
          cases hd2 : ds[p - n]? with
          | none => rw [hd2] at hp; cases hp
          | some d =>
            rw [hd2] at hp
            cases hp
            have hlt : p - n < us.length := by have := (List.getElem?_eq_some_iff.1 hd2).1; omega
            refine ⟨us[p - n], ?_, DV.mono F.up _ _ ((DVL_iff.1 hds).2 _ d _ hd2 (List.getElem?_eq_getElem hlt)), h1 _ (List.getElem_mem _)⟩
            rw [splice_at (by simpa using hroom), if_neg (by omega), if_pos (by omega), show p - (γ.β id st).2 - (n - (γ.β id st).2) = p - n by omega]
            exact List.getElem?_eq_getElem hlt
        · rw [if_neg hp2] at hp
          cases hc : cs[p]? with
          | none => rw [hc] at hp; cases hp
          | some c0 =>
            rw [hc] at hp
            cases hp
            have := (shutC_has hh).2
            omega
  · have : n - (γ.β id st).2 + j < vs.size := by omega
    simp [World.cell?, h5, this]
  · simp [World.frozen?, h5]
end
end Go.Ev