import Derived.Test.YtihlllachfonoaaGreatDoorEvG
set_option linter.all false
namespace Go.Ev
open Go.RowKit (Below)

theorem heap_alloc_lt (w : World) (o : Obj) {k : Nat} (h : k < w.heap.size) : (w.alloc o).heap[k]? = w.heap[k]? := Below.heap_alloc w o k h
theorem heap_alloc_self (w : World) (o : Obj) : (w.alloc o).heap[w.heap.size]? = some o := by
  show (w.heap.push o)[w.heap.size]? = _
  simp
theorem size_alloc' (w : World) (o : Obj) : (w.alloc o).heap.size = w.heap.size + 1 := by
  show (w.heap.push o).size = _
  simp
theorem shape_lt {w : World} {b : Nat} {x : TypeId × Nat} (h : w.shape? b = some x) : b < w.heap.size := by
  unfold World.shape? at h
  cases hb : w.heap[b]? with
  | none => rw [hb] at h; cases h
  | some o => exact (Array.getElem?_eq_some_iff.1 hb).1
theorem shape_same {w w' : World} {b : Nat} (h : w'.heap[b]? = w.heap[b]?) : w'.shape? b = w.shape? b := by
  unfold World.shape?; rw [h]
theorem shape_cells {w : World} {b : Nat} {vs : Array Value} {e : TypeId} {fr : Nat × Nat} (h : w.heap[b]? = some (.cells vs e fr)) : w.shape? b = some (e, vs.size) := by
  unfold World.shape?; rw [h]

section
variable {P : Program} {V : Sel} {γ : Gh} {a : Act} {w : World} {sl : T D} {ob : T C} {nx : Pos} {lg : Option (T Bool)} {nt : Nat} {o : Oper} {ro : Option Nat}

/-- A new block. -/
theorem fresh_move (g : G ro γ a w) (id : Pos) (obj : Obj) (hobj : ∀ vs e fr, obj = .cells vs e fr → fr = (0, 0)) : Fr (fun j => j = id) γ (γ.push id (w.heap.size, 0)) w (w.alloc obj) ∧ ∀ a' : Act, a'.defers = a.defers → G ro (γ.push id (w.heap.size, 0)) a' (w.alloc obj) :=
  push_all g id w.heap.size 0 (by rw [size_alloc']; omega) (.inl ⟨Nat.le_refl _, by rw [size_alloc']; omega⟩) (fun c hc _ => heap_alloc_lt w obj hc)
    (fun c x hx => by rw [shape_same (heap_alloc_lt w obj (shape_lt hx))]; exact hx)
    (fun c r hr => ⟨r, by rw [heap_alloc_lt w obj (Array.getElem?_eq_some_iff.1 hr).1]; exact hr⟩) ⟨rfl, rfl, rfl⟩ (frozen_alloc w obj hobj)
theorem fresh_up (γ : Gh) (w : World) (id : Pos) (obj : Obj) : Up γ (γ.push id (w.heap.size, 0)) w (w.alloc obj) :=
  ⟨fun j => by
    by_cases e : j = id
    · subst e; rw [γ.push_cur]; omega
    · rw [γ.push_cur_ne _ e]; exact Nat.le_refl _, fun j s hs => γ.push_β_old id _ hs, fun c x hx => by rw [shape_same (heap_alloc_lt w obj (shape_lt hx))]; exact hx,
    fun b hb => ⟨hb, fun o ho => by rw [heap_alloc_lt w obj (Array.getElem?_eq_some_iff.1 ho).1]; exact ho⟩⟩
def C.rw : C → Bool
  | .cells r _ _ => !r
  | _ => true

/-- What the other objects hold behind it. -/
theorem others_hold (R : Rep P V γ a w ⟨sl, ob, nx, lg⟩) (g : G ro γ a w) {γ' : Gh} {w' : World} {id : Pos} {c : C} (F : Fr (fun j => j = id) γ γ' w w') (hc : V.so id → HoldsO P γ' w' id c) :
    ∀ j c', V.so j → (T.set id c ob).get j = some c' → HoldsO P γ' w' j c' := by
  intro j c' hj h
  by_cases e : j = id
  · subst e
    rw [T.get_set_same] at h
    cases h
    exact hc hj
  · rw [T.get_set_ne e] at h
    exact F.keep g e (R.ob j c' hj h)

theorem freshK_eq {c : C} {d : Pos} {v : D} {Z : X} (h : freshK sl ob nx lg c d v = some Z) : ∃ lg', Z = ⟨T.set d v sl, T.set nx c ob, nx.succ, lg'⟩ ∧ LgLe lg lg' ∧ wrtn lg' nx := by
  unfold freshK at h
  obtain ⟨lg', h1, h2, h3⟩ := logW_ok h
  rw [T.setK_eq, Pos.succK_eq] at h1
  exact ⟨lg', outK_eq h1, h2, h3⟩

theorem OpOk.fresh {lg' : Option (T Bool)} {d : Pos} {v : D} {c : C} {names : List Pos} (hd : o.dst = some d.ix) (hlt : d.ix < nt) (hl : LgLe lg lg') (hw : wrtn lg' nx)
    (h : ∀ V : Sel, (∀ s, s ∈ names → V.ss s) → ∀ (γ : Gh) (a : Act) (w : World), Rep P V γ a w ⟨sl, ob, nx, lg⟩ → γ.cur nx = 0 → ∃ u obj, (execOp a.eval o).run P w = .ok (.value u) (w.alloc obj) ∧
      ((∀ {w2 : World}, w2 = w.alloc obj → Up γ (γ.push nx (w.heap.size, 0)) w w2 → w2.heap[w.heap.size]? = some obj → DV (γ.push nx (w.heap.size, 0)) w2 v u ∧ HoldsO P (γ.push nx (w.heap.size, 0)) w2 nx c)))  (hrw : c.rw = true := by rfl) :
    OpOk P nt o names ⟨sl, ob, nx, lg⟩ ⟨T.set d v sl, T.set nx c ob, nx.succ, lg'⟩ :=
  OpOk.value hd hlt hl (by rw [Pos.succ_nat]; omega) ((Keeps.refl _ _).set hw _) fun V hs hto ro γ a w g R => by
    have hso : V.so nx := hto nx hw.tchd
    have h0 := R.nx nx hso (Nat.le_refl _)
    obtain ⟨u, obj, h1, h2⟩ := h V hs γ a w R h0
    obtain ⟨h3, h4⟩ := h2 rfl (fresh_up γ w nx obj) (heap_alloc_self w obj)
    obtain ⟨F, g'⟩ := fresh_move g nx obj fun vs e fr hobj => by
      subst hobj
      have hb := γ.push_β nx (w.heap.size, 0)
      rw [h0] at hb
      cases c with
      | cells r cs cur =>
        obtain ⟨k1, k2, k3⟩ := h4
        obtain ⟨vs', e', fr', k4, k5, _⟩ := k3 0 k1
        rw [hb, heap_alloc_self] at k4
        cases k4
        exact k5 (by cases r <;> first | rfl | cases hrw)
      | map es =>
        obtain ⟨_, en, cl, k4, _⟩ := h4
        rw [hb, heap_alloc_self] at k4
        cases k4
      | lp _ _ _ _ _ _ _ =>
        obtain ⟨_, l, k4, _⟩ := h4
        rw [hb, heap_alloc_self] at k4
        cases k4
      | hole => have h5 : (γ.push nx (w.heap.size, 0)).cur nx = 0 := h4; rw [γ.push_cur] at h5; omega
    refine ⟨u, _, _, h1, F.mono (fun id e => by rw [e]; exact hw), g', h3, others_hold R g F fun _ => h4, fun id hid hle => ?_⟩
    rw [Pos.succ_nat] at hle
    have hne : id ≠ nx := by rintro rfl; omega
    rw [γ.push_cur_ne _ hne]
    exact R.nx id hid (by show nx.nat ≤ id.nat; omega)

/-- A new block of cells holds what they read as. -/
theorem cells_hold {γ' : Gh} {w2 : World} {id : Pos} {b : Nat} {vs : Array Value} {e : TypeId} {ds : List D} (hc : γ'.cur id = 1) (hb : γ'.β id 0 = (b, 0)) (hh : w2.heap[b]? = some (.cells vs e)) (hds : DVL γ' w2 ds vs.toList) (h1 : ∀ u ∈ vs.toList, u.oneCell' = true) :
    HoldsO P γ' w2 id (.cells false (ds.map fun d => .o d 0) 1) := by
  refine ⟨Nat.one_pos, hc, fun st hst => ?_⟩
  obtain rfl : st = 0 := by omega
  rw [hb]
  refine ⟨vs, e, (0, 0), hh, fun _ => rfl, fun p c hp _ _ => ?_⟩
  obtain ⟨h2, h3⟩ := DVL_iff.1 hds
  rw [List.getElem?_map] at hp
  cases hd : ds[p]? with
  | none => rw [hd] at hp; cases hp
  | some d =>
    rw [hd] at hp
    cases hp
    have hlt : p < vs.size := by have := (List.getElem?_eq_some_iff.1 hd).1; simp at h2; omega
    refine ⟨vs[p], by simp [hlt], h3 p d _ hd (by simp [hlt]), h1 _ (by simp)⟩

theorem zeroD_ok {t : TypeId} {zs : List D} (h : zeroD P t = some zs) : ∃ z : Value, (∀ w, (zeroValue t).run P w = .ok z w) ∧ (∀ γ w, DVL γ w zs z.cells.toList) ∧ ∀ u ∈ z.cells.toList, u.oneCell' = true := by
  unfold zeroD at h
  split at h
  · rename_i i hi
    split at h
    · rename_i z hz
      refine ⟨z, fun w => by simp [zeroValue, typeInfo, hi, hz], fun γ w => (constDs_ok h).1, (constDs_ok (γ := ⟨fun _ => 0, fun _ _ => (0, 0), fun _ => False⟩) (w := default) h).2⟩
    · cases h
  · cases h
theorem run_newVar' (w : World) (t : TypeId) (v : Value) : (newVar t v).run P w = .ok ⟨w.heap.size, 0, none⟩ (w.alloc (.cells v.cells t)) := rfl

theorem new_ok {t : TypeId} {zs : List D} {d : Pos} {Z : X} (ho : o.op = .alloc t) (hd : o.dst = some d.ix) (hlt : d.ix < nt) (hz : zeroD P t = some zs) (h : s_new d zs sl ob nx lg = some Z) : OpOk P nt o [] ⟨sl, ob, nx, lg⟩ Z := by
  unfold s_new at h
  rw [openK_eq] at h
  obtain ⟨lg', rfl, h2, h3⟩ := freshK_eq h
  obtain ⟨z, z1, z2, z3⟩ := zeroD_ok hz
  refine OpOk.fresh hd hlt h2 h3 fun V _ γ a w R h0 => ⟨.pointer (some ⟨w.heap.size, 0, none⟩), .cells z.cells t, ?_, fun {w2} e U hh => ⟨?_, ?_⟩⟩
  · simp [execOp, ho, Instr.alloc, z1, run_newVar']
  · unfold DV
    have hb := γ.push_β nx (w.heap.size, 0)
    rw [h0] at hb
    rw [hb, γ.push_cur, h0]
    exact ⟨Nat.one_pos, Nat.le_refl _, rfl⟩
  · have hb := γ.push_β nx (w.heap.size, 0)
    rw [h0] at hb
    exact cells_hold (by rw [γ.push_cur, h0]) hb hh (z2 _ _) z3

theorem cellsD_ok {d : D} {v : Value} {ds : List D} (H : DV γ w d v) (h : cellsD d = some ds) : DVL γ w ds v.cells.toList ∧ ∀ u ∈ v.cells.toList, u.oneCell' = true := by
  have gen : v.oneCell' = true → v.cells = #[v] → ds = [d] → DVL γ w ds v.cells.toList ∧ ∀ u ∈ v.cells.toList, u.oneCell' = true := by
    rintro h1 h3 rfl
    rw [h3]
    exact ⟨DVL.one H, fun u hu => by simp at hu; subst hu; exact h1⟩
  cases d with
  | ag cs =>
    cases h
    obtain ⟨vs, rfl, h2, h3⟩ := DV_ag H
    exact ⟨h2, h3⟩
  | any => cases h
  | tp cs => cases h
  | pt id off st => obtain ⟨_, _, rfl⟩ := DV_pt H; exact gen rfl rfl (by cases h; rfl)
  | sl id off n st z => obtain ⟨_, _, _, _, _, rfl, _⟩ := DV_sl H; exact gen rfl rfl (by cases h; rfl)
  | fn f x y => obtain ⟨_, _, rfl, _⟩ := DV_fn H; exact gen rfl rfl (by cases h; rfl)
  | em => have H2 := H; unfold DV at H2; obtain ⟨_, rfl⟩ := H2; exact gen rfl rfl (by cases h; rfl)
  | mp id => have H2 := H; unfold DV at H2; obtain ⟨_, rfl⟩ := H2; exact gen rfl rfl (by cases h; rfl)
  | yl id => have H2 := H; unfold DV at H2; obtain ⟨_, rfl⟩ := H2; exact gen rfl rfl (by cases h; rfl)
  | ifc t d => have H2 := H; unfold DV at H2; obtain ⟨_, rfl, _⟩ := H2; exact gen rfl rfl (by cases h; rfl)
  | lst z es => obtain ⟨_, _, rfl, _⟩ := DV_lst H; exact gen rfl rfl (by cases h; rfl)
  | pl r k => obtain ⟨_, _, _, _, _, _, _, rfl, _⟩ := DV_pl H; exact gen rfl rfl (by cases h; rfl)
  | _ => have H2 := H; unfold DV at H2; subst H2; exact gen rfl rfl (by cases h; rfl)

theorem box_ok {t : TypeId} {x : Operand} {d : Pos} {r : RX} {Z : X} (ho : o.op = .box t x) (hd : o.dst = some d.ix) (hlt : d.ix < nt) (hx : rx x = some r) (h : s_box d r sl ob nx lg = some Z) : OpOk P nt o r.ss ⟨sl, ob, nx, lg⟩ Z := by
  unfold s_box at h
  split at h
  · rename_i v hv
    split at h
    · rename_i ds hds
      rw [openK_eq] at h
      obtain ⟨lg', rfl, h2, h3⟩ := freshK_eq h
      refine OpOk.fresh hd hlt h2 h3 fun V hs γ a w R h0 => ⟨.pointer (some ⟨w.heap.size, 0, none⟩), .cells (a.eval x).cells t, ?_, fun {w2} e U hh => ⟨?_, ?_⟩⟩
      · simp [execOp, ho, Instr.box, run_newVar']
      · unfold DV
        have hb := γ.push_β nx (w.heap.size, 0)
        rw [h0] at hb
        rw [hb, γ.push_cur, h0]
        exact ⟨Nat.one_pos, Nat.le_refl _, rfl⟩
      · have hb := γ.push_β nx (w.heap.size, 0)
        rw [h0] at hb
        obtain ⟨e1, e2⟩ := cellsD_ok (opd_ok hx hv R hs) hds
        exact cells_hold (by rw [γ.push_cur, h0]) hb hh (DVL.mono U _ _ e1) e2
    · cases h
  · cases h

theorem mkm_ok {t : TypeId} {d : Pos} {Z : X} (ho : o.op = .makeMap t none) (hd : o.dst = some d.ix) (hlt : d.ix < nt) (h : s_mkm d sl ob nx lg = some Z) : OpOk P nt o [] ⟨sl, ob, nx, lg⟩ Z := by
  unfold s_mkm at h
  obtain ⟨lg', rfl, h2, h3⟩ := freshK_eq h
  refine OpOk.fresh hd hlt h2 h3 fun V _ γ a w R h0 => ⟨.map (some w.heap.size), .map #[] 0, ?_, fun {w2} e U hh => ⟨?_, ?_⟩⟩
  · simp [execOp, ho, Instr.makeMap]
  · unfold DV
    have hb := γ.push_β nx (w.heap.size, 0)
    rw [h0] at hb
    rw [hb, γ.push_cur, h0]
    exact ⟨Nat.one_pos, rfl⟩
  · have hb := γ.push_β nx (w.heap.size, 0)
    rw [h0] at hb
    refine ⟨by rw [γ.push_cur, h0], #[], 0, by rw [hb]; exact hh, rfl, fun i e f he => by simp at he⟩

/-! ### parts laid into their places -/
theorem splice_length {α : Type} {l : List α} {o : Nat} {new : List α} (h : o + new.length ≤ l.length) : (splice l o new).length = l.length := by
  simp [splice]; omega
theorem DVL.splice {ds new : List D} {vs nv : List Value} (H : DVL γ w ds vs) (hn : DVL γ w new nv) (o : Nat) : DVL γ w (splice ds o new) (Ev.splice vs o nv) := by
  unfold Ev.splice
  rw [(DVL_iff.1 hn).1]
  exact ((H.take o).append hn).append (H.drop _)
theorem splice_one {vs nv : List Value} (h1 : ∀ u ∈ vs, u.oneCell' = true) (h2 : ∀ u ∈ nv, u.oneCell' = true) (o : Nat) : ∀ u ∈ splice vs o nv, u.oneCell' = true := by
  intro u hu
  simp only [splice, List.mem_append] at hu
  rcases hu with (hu | hu) | hu
  · exact h1 u (List.mem_of_mem_take hu)
  · exact h2 u hu
  · exact h1 u (List.mem_of_mem_drop hu)
end
end Go.Ev

namespace Go.Ev
open Go.RowKit (Below)

theorem splice_cons {α : Type} {l : List α} {o : Nat} {x : α} {new : List α} (h : o + 1 + new.length ≤ l.length) : splice (l.set o x) (o + 1) new = splice l o (x :: new) := by
  unfold splice
  have h1 : (l.set o x).take (o + 1) = l.take o ++ [x] := by
    rw [List.take_succ_eq_append_getElem (by simp; omega)]
    simp [List.take_set_of_le]
  have h2 : (l.set o x).drop (o + 1 + new.length) = l.drop (o + (x :: new).length) := by
    rw [List.drop_set_of_lt (by omega), List.length_cons]
    congr 1; omega
  rw [h1, h2]
  simp
theorem splice_nil {α : Type} (l : List α) (o : Nat) : splice l o [] = l := by simp [splice]
theorem foldl_set : ∀ (vs : List Value) (cs : Array Value) (o k : Nat), o + k + vs.length ≤ cs.size →
    (vs.zipIdx k).foldl (fun cs (p : Value × Nat) => cs.setIfInBounds (o + p.2) p.1) cs = (splice cs.toList (o + k) vs).toArray
  | [], cs, o, k, _ => by simp [splice_nil]
  | v :: vs, cs, o, k, h => by
    simp only [List.length_cons] at h
    rw [List.zipIdx_cons, List.foldl_cons]
    simp only []
    rw [foldl_set vs _ o (k + 1) (by simp; omega), Array.toList_setIfInBounds, ← Nat.add_assoc, splice_cons (by simp; omega)]


section
variable {P : Program} {sl : T D} {ob : T C} {nx : Pos} {lg : Option (T Bool)} {nt : Nat} {o : Oper}

theorem parts_ok {β : Type} {place : Nat → Option (Nat × Nat)} : ∀ {ps : List (Nat × Operand)} {rs : List (Nat × Nat × RX)} {l : List D} {k : List D → Option β} {Z : β}, partsC place ps = some rs → partsK sl rs l k = some Z →
    ∃ l', k l' = some Z ∧ l'.length = l.length ∧ ∀ {V : Sel} {γ : Gh} {a : Act} {w : World}, Rep P V γ a w ⟨sl, ob, nx, lg⟩ → (∀ s, s ∈ RX.ssp rs → V.ss s) → ∀ cells : Array Value, DVL γ w l cells.toList → (∀ u ∈ cells.toList, u.oneCell' = true) →
      ∃ cells', Instr.fill place cells (ps.map fun y => (y.1, a.eval y.2)) = some cells' ∧ DVL γ w l' cells'.toList ∧ ∀ u ∈ cells'.toList, u.oneCell' = true
  | [], rs, l, k, Z, hp, h => by
    cases hp
    exact ⟨l, h, rfl, fun R _ cells h1 h2 => ⟨cells, rfl, h1, h2⟩⟩
  | (i, x) :: ps, rs, l, k, Z, hp, h => by
    simp only [partsC] at hp
    split at hp
    · rename_i off n r rs' h1 h2 h3
      cases hp
      have h : (match opd sl r with
        | some d => match cellsD d with
          | some cs => bif Nat.beq cs.length n then layAtK cs off l fun l => partsK sl rs' l k else none
          | none => none
        | none => none) = some Z := h
      split at h
      · rename_i d hd
        split at h
        · rename_i cs hcs
          cases hb : Nat.beq cs.length n with
          | false => rw [hb] at h; cases h
          | true =>
            rw [hb] at h
            have hcn := Nat.eq_of_beq_eq_true hb
            obtain ⟨h4, h5⟩ := layAtK_ok h
            obtain ⟨l', h6, h7, h8⟩ := parts_ok h3 h5
            refine ⟨l', h6, by rw [h7, splice_length h4], fun {V γ a w} R hs cells hd1 hd2 => ?_⟩
            obtain ⟨e1, e2⟩ := cellsD_ok (opd_ok h2 hd R fun s hs' => hs s (by simp [RX.ssp, hs'])) hcs
            have hvl := (DVL_iff.1 e1).1
            have hcl := (DVL_iff.1 hd1).1
            have hvs : (a.eval x).cells.size = n := by rw [← hcn, hvl]; simp
            have hof : off + (a.eval x).cells.size ≤ cells.size := by simp at hcl; omega
            have hnext : (a.eval x).cells.zipIdx.foldl (fun cs (p : Value × Nat) => cs.setIfInBounds (off + p.2) p.1) cells = (splice cells.toList off (a.eval x).cells.toList).toArray := by
              have := foldl_set (a.eval x).cells.toList cells off 0 (by simpa using hof)
              rw [Nat.add_zero] at this
              rw [← this, ← Array.foldl_toList]
              simp
            obtain ⟨cells', e3, e4, e5⟩ := h8 R (fun s hs' => hs s (by simp [RX.ssp, hs'])) (splice cells.toList off (a.eval x).cells.toList).toArray (hd1.splice e1 off) (splice_one hd2 e2 off)
            refine ⟨cells', ?_, e4, e5⟩
            simp only [List.map_cons, Instr.fill, h1]
            split
            · rename_i hbad; exact absurd hbad (by simp [hvs]; omega)
            · rw [← e3]
              congr 1
        · cases h
      · cases h
    · cases hp

theorem run_places (w : World) : ∀ {fs : List Field} {r : List (Nat × Nat)}, fldPlaces P fs = some r → (fs.mapM fun f => (do pure (f.offset, ← sizeOf f.type) : Sem (Nat × Nat))).run P w = .ok r w
  | [], r, h => by cases h; rfl
  | f :: fs, r, h => by
    simp only [fldPlaces] at h
    split at h
    · rename_i n r' h1 h2
      cases h
      rw [List.mapM_cons]
      simp only [Sem.run_bind, run_sizeOf' h1, Result.andThen_ok, Sem.run_pure, run_places w h2]
    · cases h

theorem bld_ok {t : TypeId} {parts : Array (Nat × Operand)} {zs : List D} {pl : Nat → Option (Nat × Nat)} {rs : List (Nat × Nat × RX)} {d : Pos} {Z : X} (ho : o.op = .build t parts) (hd : o.dst = some d.ix) (hlt : d.ix < nt) (hz : zeroD P t = some zs) (hpl : placeOf P t = some pl) (hrs : partsC pl parts.toList = some rs)
    (h : s_bld d zs rs sl ob nx lg = some Z) : OpOk P nt o (RX.ssp rs) ⟨sl, ob, nx, lg⟩ Z := by
  unfold s_bld at h
  obtain ⟨l', h1, _, h2⟩ := parts_ok (P := P) (ob := ob) (nx := nx) (lg := lg) hrs h
  rw [outK_eq h1]
  obtain ⟨z, z1, z2, z3⟩ := zeroD_ok hz
  refine OpOk.pure hd hlt (LgLe.refl _) fun V hs _ γ a w R => ?_
  obtain ⟨cells, e1, e2, e3⟩ := h2 R hs z.cells (z2 _ _) z3
  refine ⟨.agg cells, ?_, by unfold DV; exact ⟨cells, rfl, e2, e3⟩⟩
  unfold placeOf at hpl
  split at hpl
  · rename_i fs hu
    cases hf : fldPlaces P fs.toList with
    | none => rw [hf] at hpl; cases hpl
    | some r =>
      rw [hf] at hpl
      cases hpl
      have hm : (fs.mapM fun f => (do pure (f.offset, ← sizeOf f.type) : Sem (Nat × Nat))).run P w = .ok r.toArray w := by
        rw [Array.mapM_eq_mapM_toList]
        simp only [Sem.run_map, run_places w hf, Result.andThen_ok]
      have e1' : Instr.fill (fun i => r.toArray[i]?) z.cells (parts.toList.map fun y => (y.1, a.eval y.2)) = some cells := by
        rw [← e1]; congr 1; funext i; simp
      simp only [execOp, ho, Instr.build, Sem.run_bind, z1, Result.andThen_ok, run_underlying hu, hm]
      simp only [Array.toList_map, e1']
      rfl
  · rename_i n el hu
    cases hn : szOf P el with
    | none => rw [hn] at hpl; cases hpl
    | some m =>
      rw [hn] at hpl
      cases hpl
      simp only [execOp, ho, Instr.build, Sem.run_bind, z1, Result.andThen_ok, run_underlying hu, run_sizeOf' hn]
      simp only [Array.toList_map, e1]
      rfl
  · cases hpl

/-! ### rows of zeros -/
theorem reps_length (z : List D) : ∀ n, (reps z n).length = n * z.length
  | 0 => by simp [reps]
  | n + 1 => by simp [reps, reps_length z n, Nat.add_mul]; omega
theorem reps_at (z : List D) : ∀ (n i : Nat), i < n * z.length → (reps z n)[i]? = z[i % z.length]?
  | 0, i, h => by omega
  | n + 1, i, h => by
    simp only [reps]
    by_cases hi : i < z.length
    · rw [List.getElem?_append_left hi, Nat.mod_eq_of_lt hi]
    · rw [List.getElem?_append_right (by omega), reps_at z n (i - z.length) (by rw [Nat.add_mul] at h; omega)]
      congr 1
      rw [Nat.mod_eq_sub_mod (by omega : i ≥ z.length)]
theorem zeros_ok {γ : Gh} {w : World} {z : List D} {v : Array Value} (h : DVL γ w z v.toList) (h1 : ∀ u ∈ v.toList, u.oneCell' = true) {n m : Nat} (hm : m = n * z.length) : DVL γ w (reps z n) ((Array.range m).map (v[· % v.size]!)).toList ∧ ∀ u ∈ ((Array.range m).map (v[· % v.size]!)).toList, u.oneCell' = true := by
  obtain ⟨h2, h3⟩ := DVL_iff.1 h
  have hz : z.length = v.size := by simpa using h2
  by_cases h0 : v.size = 0
  · have : m = 0 := by rw [hm, hz, h0]; simp
    subst this
    have hr : reps z n = [] := by rw [← List.length_eq_zero_iff, reps_length, hz, h0]; simp
    rw [hr]
    simp [DVL]
  · have hpos : 0 < v.size := by omega
    refine ⟨DVL_iff.2 ⟨by rw [reps_length]; simp [hm], fun i d u hd hu => ?_⟩, fun u hu => ?_⟩
    · have hi : i < n * z.length := by rw [← reps_length]; exact (List.getElem?_eq_some_iff.1 hd).1
      rw [reps_at z n i hi] at hd
      have hmod : i % v.size < v.size := Nat.mod_lt _ hpos
      have hu' : u = v[i % v.size] := by
        simp at hu
        obtain ⟨k, hk, rfl⟩ := hu
        have hk' : k = i := by
          obtain ⟨h5, h6⟩ := List.getElem?_eq_some_iff.1 hk
          simpa using h6.symm
        subst hk'
        simp [hmod]
      rw [hu']
      exact h3 (i % v.size) d _ (by rw [← hz]; exact hd) (by simp [hmod])
    · simp at hu
      obtain ⟨i, _, rfl⟩ := hu
      have hmod : i % v.size < v.size := Nat.mod_lt _ hpos
      simp [hmod]
      exact h1 _ (by simp)

theorem sl_fresh {γ : Gh} {w w2 : World} {vs : Array Value} {e : TypeId} {len z : Nat} (h0 : γ.cur nx = 0) (hh : w2.heap[w.heap.size]? = some (.cells vs e)) (hs : len * z ≤ vs.size) : DV (γ.push nx (w.heap.size, 0)) w2 (.sl nx 0 len 0 z) (.slice (some ⟨w.heap.size, 0, none⟩) len len) := by
  unfold DV
  have hb := γ.push_β nx (w.heap.size, 0)
  rw [h0] at hb
  rw [hb, γ.push_cur, h0]
  exact ⟨Nat.one_pos, Nat.le_refl _, len, e, vs.size, rfl, Nat.le_refl _, shape_cells hh, by simpa using hs⟩

theorem bsl_ok {t el : TypeId} {len z : Nat} {parts : Array (Nat × Operand)} {zs : List D} {rs : List (Nat × Nat × RX)} {d : Pos} {Z : X} (ho : o.op = .buildSlice t len parts) (hd : o.dst = some d.ix) (hlt : d.ix < nt) (hu : P.underlying t = some (.slice el)) (hs : szOf P el = some z) (hz : zeroD P el = some zs)
    (hrs : partsC (fun i => some (i * z, z)) parts.toList = some rs) (hle : len * z ≤ 16777216) (hzl : zs.length = z) (h : s_bsl d z len (reps zs len) rs sl ob nx lg = some Z) : OpOk P nt o (RX.ssp rs) ⟨sl, ob, nx, lg⟩ Z := by
  unfold s_bsl at h
  obtain ⟨l', h1, hl', h2⟩ := parts_ok (P := P) (ob := ob) (nx := nx) (lg := lg) hrs h
  rw [openK_eq] at h1
  obtain ⟨lg', rfl, h3, h4⟩ := freshK_eq h1
  obtain ⟨zv, z1, z2, z3⟩ := zeroD_ok hz
  refine OpOk.fresh hd hlt h3 h4 fun V hs' γ a w R h0 => ?_
  have hinit : ∀ γ w, DVL γ w (reps zs len) ((Array.range (len * z)).map (zv.cells[· % zv.cells.size]!)).toList ∧ ∀ u ∈ ((Array.range (len * z)).map (zv.cells[· % zv.cells.size]!)).toList, u.oneCell' = true := fun γ w => zeros_ok (z2 γ w) z3 (by rw [hzl])
  obtain ⟨cells, e1, e2, e3⟩ := h2 R hs' _ (hinit _ _).1 (hinit γ w).2
  have hsz : cells.size = len * z := by
    have := (DVL_iff.1 e2).1
    rw [hl', reps_length, hzl] at this
    simpa using this.symm
  refine ⟨.slice (some ⟨w.heap.size, 0, none⟩) len len, .cells cells el, ?_, fun {w2} e U hh => ⟨sl_fresh h0 hh (by omega), ?_⟩⟩
  · simp only [execOp, ho, Instr.buildSlice, Sem.run_bind, run_underlying hu, Result.andThen_ok, run_sizeOf' hs]
    rw [if_neg (by omega)]
    by_cases hzero : len * z = 0
    · rw [if_pos hzero]
      simp only [Sem.run_bind, Sem.run_pure, Result.andThen_ok]
      have e1' : Instr.fill (fun i => some (i * z, z)) ((Array.range (len * z)).map ((#[] : Array Value)[· % (#[] : Array Value).size]!)) (parts.map fun (i, x) => (i, a.eval x)).toList = some cells := by
        have hz0 : ∀ f : Nat → Value, Array.map f (Array.range 0) = #[] := fun f => by apply Array.ext'; simp
        rw [← e1, hzero, hz0, hz0]
        simp
      rw [e1']
      rfl
    · rw [if_neg hzero]
      simp only [Sem.run_bind, z1, Result.andThen_ok, Sem.run_pure]
      have e1' : Instr.fill (fun i => some (i * z, z)) ((Array.range (len * z)).map (zv.cells[· % zv.cells.size]!)) (parts.map fun (i, x) => (i, a.eval x)).toList = some cells := by
        rw [← e1]
        simp
      rw [e1']
      rfl
  · have hb := γ.push_β nx (w.heap.size, 0)
    rw [h0] at hb
    exact cells_hold (by rw [γ.push_cur, h0]) hb hh (DVL.mono U _ _ e2) e3

theorem repK_eq {β : Type} (zs : List D) : ∀ (l : Nat) (k : List Cell → Option β), (Nat.rec (fun k => k []) (fun _ ih k => ih fun l => consK (fun d => .o d 0) zs l k) l : (List Cell → Option β) → Option β) k = k ((reps zs l).map fun d => .o d 0)
  | 0, k => rfl
  | l + 1, k => by
    show (Nat.rec (fun k => k []) (fun _ ih k => ih fun l => consK (fun d => .o d 0) zs l k) l : (List Cell → Option β) → Option β) (fun l => consK (fun d => .o d 0) zs l k) = _
    rw [repK_eq zs l, consK_eq]
    simp [reps]
theorem mks_ok {t el : TypeId} {l c : Operand} {i : TypeInfo} {z : Nat} {zs : List D} {d : Pos} {r1 r2 : RX} {Z : X} (ho : o.op = .makeSlice t l c) (hd : o.dst = some d.ix) (hlt : d.ix < nt) (hx : rx l = some r1) (hy : rx c = some r2) (hu : P.underlying t = some (.slice el)) (hs : szOf P el = some z) (hz : zeroD P el = some zs) (hi : P.info? el = some i)
    (hby : i.bytes ≤ 65536) (hzl : zs.length = z) (h : s_mks d z zs r1 r2 sl ob nx lg = some Z) : OpOk P nt o (r1.ss ++ r2.ss) ⟨sl, ob, nx, lg⟩ Z := by
  unfold s_mks at h
  split at h
  · rename_i k1 l' k2 c' hl hc
    cases hb : (Nat.beq l' c' && Nat.ble l' 65536) with
    | false => rw [hb] at h; cases h
    | true =>
      rw [hb] at h
      simp only [cond_true] at h
      rw [repK_eq] at h
      rw [Bool.and_eq_true] at hb
      have e1 := Nat.eq_of_beq_eq_true hb.1
      have e2 := Nat.le_of_ble_eq_true hb.2
      subst e1
      obtain ⟨lg', rfl, h3, h4⟩ := freshK_eq h
      obtain ⟨zv, z1, z2, z3⟩ := zeroD_ok hz
      have hinit : ∀ γ w, DVL γ w (reps zs l') ((Array.range (l' * z)).map (zv.cells[· % zv.cells.size]!)).toList ∧ ∀ u ∈ ((Array.range (l' * z)).map (zv.cells[· % zv.cells.size]!)).toList, u.oneCell' = true := fun γ w => zeros_ok (z2 γ w) z3 (by rw [hzl])
      refine OpOk.fresh hd hlt h3 h4 fun V hs' γ a w R h0 => ⟨.slice (some ⟨w.heap.size, 0, none⟩) l' l', .cells ((Array.range (l' * z)).map (zv.cells[· % zv.cells.size]!)) el, ?_, fun {w2} e U hh => ⟨sl_fresh h0 hh (by simp), ?_⟩⟩
      · have v1 := DV_i (opd_ok hx hl R fun s h => hs' s (by simp [h]))
        have v2 := DV_i (opd_ok hy hc R fun s h => hs' s (by simp [h]))
        have w1 : IntKind.i64.wrap (l' : Int) = (l' : Int) := IntWalk.i64_in _ (by omega)
        have hz0 : ∀ f : Nat → Value, Array.map f (Array.range 0) = #[] := fun f => by apply Array.ext'; simp
        have hle : i.bytes * l' ≤ 65536 * 65536 := Nat.mul_le_mul hby e2
        have hby2 : ¬ ((281474976710656 : Int) < (i.bytes : Int) * (l' : Int)) := by
          have : ((i.bytes * l' : Nat) : Int) = (i.bytes : Int) * (l' : Int) := by simp
          omega
        have hroom : ¬ (140737488355328 < l' * i.bytes) := by rw [Nat.mul_comm]; omega
        have hneg : ¬ ((l' : Int) < 0) := by omega
        by_cases hzero : l' * z = 0
        · simp [execOp, ho, Instr.makeSlice, v1, v2, asInt, asIntOf, run_underlying hu, typeInfo, hi, w1, hneg, hby2, askRoom, roomBytes, hroom, run_sizeOf' hs, hzero, newRow, hz0]
        · simp [execOp, ho, Instr.makeSlice, v1, v2, asInt, asIntOf, run_underlying hu, typeInfo, hi, w1, hneg, hby2, askRoom, roomBytes, hroom, run_sizeOf' hs, hzero, z1, newRow]
      · have hb := γ.push_β nx (w.heap.size, 0)
        rw [h0] at hb
        exact cells_hold (by rw [γ.push_cur, h0]) hb hh (hinit _ _).1 (hinit γ w2).2
  · cases h
end
end Go.Ev
