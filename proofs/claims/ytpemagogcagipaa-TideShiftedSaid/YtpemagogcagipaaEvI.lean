import Derived.Test.YtpemagogcagipaaEvH
set_option linter.all false
namespace Go.Ev
open Go.RowKit (Below)

theorem heap_alloc_lt (w : World) (o : Obj) {k : Nat} (h : k < w.heap.size) : (w.alloc o).heap[k]? = w.heap[k]? := Below.heap_alloc w o k h
theorem heap_alloc_self (w : World) (o : Obj) : (w.alloc o).heap[w.heap.size]? = some o := by
  show (w.heap.push o)[w.heap.size]? = _
  simp
theorem size_alloc' (w : World) (o : Obj) : (w.alloc o).heap.size = w.heap.size + 1 := by
  show (w.heap.push o).size = _
  simp
theorem shape_lt {w : World} {b : Nat} {x : TypeId × Nat} (h : w.shape? b = some x) : b < w.heap.size := by
  unfold World.shape? at h
  cases hb : w.heap[b]? with
  | none => rw [hb] at h; cases h
  | some o => exact (Array.getElem?_eq_some_iff.1 hb).1
theorem shape_same {w w' : World} {b : Nat} (h : w'.heap[b]? = w.heap[b]?) : w'.shape? b = w.shape? b := by
  unfold World.shape?; rw [h]
theorem shape_cells {w : World} {b : Nat} {vs : Array Value} {e : TypeId} {fr : Nat × Nat} (h : w.heap[b]? = some (.cells vs e fr)) : w.shape? b = some (e, vs.size) := by
  unfold World.shape?; rw [h]

section
variable {P : Program} {V : Sel} {γ : Gh} {a : Act} {w : World} {sl : T D} {ob : T C} {nx : Pos} {lg : Option (T Bool)} {nt : Nat} {o : Oper} {ro : Option Nat}

/-- A new block. -/
theorem fresh_move (g : G ro γ a w) (id : Pos) (obj : Obj) (hobj : ∀ vs e fr, obj = .cells vs e fr → fr = (0, 0)) : Fr (fun j => j = id) γ (γ.push id (w.heap.size, 0)) w (w.alloc obj) ∧ ∀ a' : Act, a'.defers = a.defers → G ro (γ.push id (w.heap.size, 0)) a' (w.alloc obj) :=
  push_all g id w.heap.size 0 (by rw [size_alloc']; omega) (.inl ⟨Nat.le_refl _, by rw [size_alloc']; omega⟩) (fun c hc _ => heap_alloc_lt w obj hc)
    (fun c x hx => by rw [shape_same (heap_alloc_lt w obj (shape_lt hx))]; exact hx)
    (fun c r hr => ⟨r, by rw [heap_alloc_lt w obj (Array.getElem?_eq_some_iff.1 hr).1]; exact hr⟩) ⟨rfl, rfl, rfl⟩ (frozen_alloc w obj hobj)
theorem fresh_up (γ : Gh) (w : World) (id : Pos) (obj : Obj) : Up γ (γ.push id (w.heap.size, 0)) w (w.alloc obj) :=
  ⟨fun j => by
    by_cases e : j = id
    · subst e; rw [γ.push_cur]; omega
    · rw [γ.push_cur_ne _ e]; exact Nat.le_refl _, fun j s hs => γ.push_β_old id _ hs, fun c x hx => by rw [shape_same (heap_alloc_lt w obj (shape_lt hx))]; exact hx,
    fun b hb => ⟨hb, fun o ho => by rw [heap_alloc_lt w obj (Array.getElem?_eq_some_iff.1 ho).1]; exact ho⟩⟩
def C.rw : C → Bool
  | .cells r _ _ => !r
  | _ => true

/-- What the other objects hold behind it. -/
theorem others_hold (R : Rep P V γ a w ⟨sl, ob, nx, lg⟩) (g : G ro γ a w) {γ' : Gh} {w' : World} {id : Pos} {c : C} (F : Fr (fun j => j = id) γ γ' w w') (hc : V.so id → HoldsO P γ' w' id c) :
    ∀ j c', V.so j → (T.set id c ob).get j = some c' → HoldsO P γ' w' j c' := by
  intro j c' hj h
  by_cases e : j = id
  · subst e
    rw [T.get_set_same] at h
    cases h
    exact hc hj
  · rw [T.get_set_ne e] at h
    exact F.keep g e (R.ob j c' hj h)

theorem freshK_eq {c : C} {d : Pos} {v : D} {Z : X} (h : freshK sl ob nx lg c d v = some Z) : ∃ lg', Z = ⟨T.set d v sl, T.set nx c ob, nx.succ, lg'⟩ ∧ LgLe lg lg' ∧ wrtn lg' nx := by
  unfold freshK at h
  obtain ⟨lg', h1, h2, h3⟩ := logW_ok h
  rw [T.setK_eq, Pos.succK_eq] at h1
  exact ⟨lg', outK_eq h1, h2, h3⟩

theorem OpOk.fresh {lg' : Option (T Bool)} {d : Pos} {v : D} {c : C} {names : List Pos} (hd : o.dst = some d.ix) (hlt : d.ix < nt) (hl : LgLe lg lg') (hw : wrtn lg' nx)
    (h : ∀ V : Sel, (∀ s, s ∈ names → V.ss s) → ∀ (γ : Gh) (a : Act) (w : World), Rep P V γ a w ⟨sl, ob, nx, lg⟩ → γ.cur nx = 0 → ∃ u obj, (execOp a.eval o).run P w = .ok (.value u) (w.alloc obj) ∧
      ((∀ {w2 : World}, w2 = w.alloc obj → Up γ (γ.push nx (w.heap.size, 0)) w w2 → w2.heap[w.heap.size]? = some obj → DV (γ.push nx (w.heap.size, 0)) w2 v u ∧ HoldsO P (γ.push nx (w.heap.size, 0)) w2 nx c)))  (hrw : c.rw = true := by rfl) :
    OpOk P nt o names ⟨sl, ob, nx, lg⟩ ⟨T.set d v sl, T.set nx c ob, nx.succ, lg'⟩ :=
  OpOk.value hd hlt hl (by rw [Pos.succ_nat]; omega) ((Keeps.refl _ _).set hw _) fun V hs hto ro γ a w g R => by
    have hso : V.so nx := hto nx hw.tchd
    have h0 := R.nx nx hso (Nat.le_refl _)
    obtain ⟨u, obj, h1, h2⟩ := h V hs γ a w R h0
    obtain ⟨h3, h4⟩ := h2 rfl (fresh_up γ w nx obj) (heap_alloc_self w obj)
    obtain ⟨F, g'⟩ := fresh_move g nx obj fun vs e fr hobj => by
      subst hobj
      have hb := γ.push_β nx (w.heap.size, 0)
      rw [h0] at hb
      cases c with
      | cells r cs cur =>
        obtain ⟨k1, k2, k3⟩ := h4
        obtain ⟨vs', e', fr', k4, k5, _⟩ := k3 0 k1
        rw [hb, heap_alloc_self] at k4
        cases k4
        exact k5 (by cases r <;> first | rfl | cases hrw)
      | map es =>
        obtain ⟨_, en, cl, k4, _⟩ := h4
        rw [hb, heap_alloc_self] at k4
        cases k4
      | lp _ _ _ _ _ _ _ =>
        obtain ⟨_, l, k4, _⟩ := h4
        rw [hb, heap_alloc_self] at k4
        cases k4
    refine ⟨u, _, _, h1, F.mono (fun id e => by rw [e]; exact hw), g', h3, others_hold R g F fun _ => h4, fun id hid hle => ?_⟩
    rw [Pos.succ_nat] at hle
    have hne : id ≠ nx := by rintro rfl; omega
    rw [γ.push_cur_ne _ hne]
    exact R.nx id hid (by show nx.nat ≤ id.nat; omega)

/-- A new block of cells holds what they read as. -/
theorem cells_hold {γ' : Gh} {w2 : World} {id : Pos} {b : Nat} {vs : Array Value} {e : TypeId} {ds : List D} (hc : γ'.cur id = 1) (hb : γ'.β id 0 = (b, 0)) (hh : w2.heap[b]? = some (.cells vs e)) (hds : DVL γ' w2 ds vs.toList) (h1 : ∀ u ∈ vs.toList, u.oneCell' = true) :
    HoldsO P γ' w2 id (.cells false (ds.map fun d => .o d 0) 1) := by
  refine ⟨Nat.one_pos, hc, fun st hst => ?_⟩
  obtain rfl : st = 0 := by omega
  rw [hb]
  refine ⟨vs, e, (0, 0), hh, fun _ => rfl, fun p c hp _ _ => ?_⟩
  obtain ⟨h2, h3⟩ := DVL_iff.1 hds
  rw [List.getElem?_map] at hp
  cases hd : ds[p]? with
  | none => rw [hd] at hp; cases hp
  | some d =>
    rw [hd] at hp
    cases hp
    have hlt : p < vs.size := by have := (List.getElem?_eq_some_iff.1 hd).1; simp at h2; omega
    refine ⟨vs[p], by simp [hlt], h3 p d _ hd (by simp [hlt]), h1 _ (by simp)⟩

theorem zeroD_ok {t : TypeId} {zs : List D} (h : zeroD P t = some zs) : ∃ z : Value, (∀ w, (zeroValue t).run P w = .ok z w) ∧ (∀ γ w, DVL γ w zs z.cells.toList) ∧ ∀ u ∈ z.cells.toList, u.oneCell' = true := by
  unfold zeroD at h
  split at h
  · rename_i i hi
    split at h
    · rename_i z hz
      refine ⟨z, fun w => by simp [zeroValue, typeInfo, hi, hz], fun γ w => (constDs_ok h).1, (constDs_ok (γ := ⟨fun _ => 0, fun _ _ => (0, 0), fun _ => False⟩) (w := default) h).2⟩
    · cases h
  · cases h
theorem run_newVar' (w : World) (t : TypeId) (v : Value) : (newVar t v).run P w = .ok ⟨w.heap.size, 0, none⟩ (w.alloc (.cells v.cells t)) := rfl

theorem new_ok {t : TypeId} {zs : List D} {d : Pos} {Z : X} (ho : o.op = .alloc t) (hd : o.dst = some d.ix) (hlt : d.ix < nt) (hz : zeroD P t = some zs) (h : s_new d zs sl ob nx lg = some Z) : OpOk P nt o [] ⟨sl, ob, nx, lg⟩ Z := by
  unfold s_new at h
  rw [openK_eq] at h
  obtain ⟨lg', rfl, h2, h3⟩ := freshK_eq h
  obtain ⟨z, z1, z2, z3⟩ := zeroD_ok hz
  refine OpOk.fresh hd hlt h2 h3 fun V _ γ a w R h0 => ⟨.pointer (some ⟨w.heap.size, 0, none⟩), .cells z.cells t, ?_, fun {w2} e U hh => ⟨?_, ?_⟩⟩
  · simp [execOp, ho, Instr.alloc, z1, run_newVar']
  · unfold DV
    have hb := γ.push_β nx (w.heap.size, 0)
    rw [h0] at hb
    rw [hb, γ.push_cur, h0]
    exact ⟨Nat.one_pos, Nat.le_refl _, rfl⟩
  · have hb := γ.push_β nx (w.heap.size, 0)
    rw [h0] at hb
    exact cells_hold (by rw [γ.push_cur, h0]) hb hh (z2 _ _) z3

theorem cellsD_ok {d : D} {v : Value} {ds : List D} (H : DV γ w d v) (h : cellsD d = some ds) : DVL γ w ds v.cells.toList ∧ ∀ u ∈ v.cells.toList, u.oneCell' = true := by
  have gen : v.oneCell' = true → v.cells = #[v] → ds = [d] → DVL γ w ds v.cells.toList ∧ ∀ u ∈ v.cells.toList, u.oneCell' = true := by
    rintro h1 h3 rfl
    rw [h3]
    exact ⟨DVL.one H, fun u hu => by simp at hu; subst hu; exact h1⟩
  cases d with
  | ag cs =>
    cases h
    obtain ⟨vs, rfl, h2, h3⟩ := DV_ag H
    exact ⟨h2, h3⟩
  | any => cases h
  | tp cs => cases h
  | pt id off st => obtain ⟨_, _, rfl⟩ := DV_pt H; exact gen rfl rfl (by cases h; rfl)
  | sl id off n st z => obtain ⟨_, _, _, _, _, rfl, _⟩ := DV_sl H; exact gen rfl rfl (by cases h; rfl)
  | fn f x y => obtain ⟨_, _, rfl, _⟩ := DV_fn H; exact gen rfl rfl (by cases h; rfl)
  | em => have H2 := H; unfold DV at H2; obtain ⟨_, rfl⟩ := H2; exact gen rfl rfl (by cases h; rfl)
  | mp id => have H2 := H; unfold DV at H2; obtain ⟨_, rfl⟩ := H2; exact gen rfl rfl (by cases h; rfl)
  | yl id => have H2 := H; unfold DV at H2; obtain ⟨_, rfl⟩ := H2; exact gen rfl rfl (by cases h; rfl)
  | ifc t d => have H2 := H; unfold DV at H2; obtain ⟨_, rfl, _⟩ := H2; exact gen rfl rfl (by cases h; rfl)
  | lst z es => obtain ⟨_, _, rfl, _⟩ := DV_lst H; exact gen rfl rfl (by cases h; rfl)
  | pl r k => obtain ⟨_, _, _, _, _, _, _, rfl, _⟩ := DV_pl H; exact gen rfl rfl (by cases h; rfl)
  | _ => have H2 := H; unfold DV at H2; subst H2; exact gen rfl rfl (by cases h; rfl)

theorem box_ok {t : TypeId} {x : Operand} {d : Pos} {r : RX} {Z : X} (ho : o.op = .box t x) (hd : o.dst = some d.ix) (hlt : d.ix < nt) (hx : rx x = some r) (h : s_box d r sl ob nx lg = some Z) : OpOk P nt o r.ss ⟨sl, ob, nx, lg⟩ Z := by
  unfold s_box at h
  split at h
  · rename_i v hv
    split at h
    · rename_i ds hds
      rw [openK_eq] at h
      obtain ⟨lg', rfl, h2, h3⟩ := freshK_eq h
      refine OpOk.fresh hd hlt h2 h3 fun V hs γ a w R h0 => ⟨.pointer (some ⟨w.heap.size, 0, none⟩), .cells (a.eval x).cells t, ?_, fun {w2} e U hh => ⟨?_, ?_⟩⟩
      · simp [execOp, ho, Instr.box, run_newVar']
      · unfold DV
        have hb := γ.push_β nx (w.heap.size, 0)
        rw [h0] at hb
        rw [hb, γ.push_cur, h0]
        exact ⟨Nat.one_pos, Nat.le_refl _, rfl⟩
      · have hb := γ.push_β nx (w.heap.size, 0)
        rw [h0] at hb
        obtain ⟨e1, e2⟩ := cellsD_ok (opd_ok hx hv R hs) hds
        exact cells_hold (by rw [γ.push_cur, h0]) hb hh (DVL.mono U _ _ e1) e2
    · cases h
  · cases h

theorem mkm_ok {t : TypeId} {d : Pos} {Z : X} (ho : o.op = .makeMap t none) (hd : o.dst = some d.ix) (hlt : d.ix < nt) (h : s_mkm d sl ob nx lg = some Z) : OpOk P nt o [] ⟨sl, ob, nx, lg⟩ Z := by
  unfold s_mkm at h
  obtain ⟨lg', rfl, h2, h3⟩ := freshK_eq h
  refine OpOk.fresh hd hlt h2 h3 fun V _ γ a w R h0 => ⟨.map (some w.heap.size), .map #[] 0, ?_, fun {w2} e U hh => ⟨?_, ?_⟩⟩
  · simp [execOp, ho, Instr.makeMap]
  · unfold DV
    have hb := γ.push_β nx (w.heap.size, 0)
    rw [h0] at hb
    rw [hb, γ.push_cur, h0]
    exact ⟨Nat.one_pos, rfl⟩
  · have hb := γ.push_β nx (w.heap.size, 0)
    rw [h0] at hb
    refine ⟨by rw [γ.push_cur, h0], #[], 0, by rw [hb]; exact hh, rfl, fun i e f he => by simp at he⟩

/-! ### parts laid into their places -/
theorem splice_length {α : Type} {l : List α} {o : Nat} {new : List α} (h : o + new.length ≤ l.length) : (splice l o new).length = l.length := by
  simp [splice]; omega
theorem DVL.splice {ds new : List D} {vs nv : List Value} (H : DVL γ w ds vs) (hn : DVL γ w new nv) (o : Nat) : DVL γ w (splice ds o new) (Ev.splice vs o nv) := by
  unfold Ev.splice
  rw [(DVL_iff.1 hn).1]
  exact ((H.take o).append hn).append (H.drop _)
theorem splice_one {vs nv : List Value} (h1 : ∀ u ∈ vs, u.oneCell' = true) (h2 : ∀ u ∈ nv, u.oneCell' = true) (o : Nat) : ∀ u ∈ splice vs o nv, u.oneCell' = true := by
  intro u hu
  simp only [splice, List.mem_append] at hu
  rcases hu with (hu | hu) | hu
  · exact h1 u (List.mem_of_mem_take hu)
  · exact h2 u hu
  · exact h1 u (List.mem_of_mem_drop hu)
end
end Go.Ev
