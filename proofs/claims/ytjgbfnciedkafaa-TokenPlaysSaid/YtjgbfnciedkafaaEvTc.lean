import Derived.Test.YtjgbfnciedkafaaEvSh
set_option linter.all false
namespace Go.Ev

theorem WB.dec {p : Prop} [Decidable p] {F : Bool → Prop} (h1 : p → F true) (h0 : ¬ p → F false) : WB (decide p) F := ⟨fun h => h1 (of_decide_eq_true h), fun h => h0 (of_decide_eq_false h)⟩
theorem WB.ndec {p : Prop} [Decidable p] {F : Bool → Prop} (h1 : ¬ p → F true) (h0 : p → F false) : WB (!decide p) F := ⟨fun h => h1 (by simpa using h), fun h => h0 (by simpa using h)⟩

section
variable {sl : T D} {ob : T C} {nx : Pos} {p q : Pos}
theorem Fin.t {u v : D} {e : Ex} (he : e = .normal ∨ e = .ret) (hg : sl.get p = some u) (hz : Frz ob u v) : Fin [.t p] v e ⟨sl, ob, nx, none⟩ :=
  ⟨he, u, by simp only [results, hg]; rfl, hz⟩
theorem Fin.b {t t' : Bool} (hg : sl.get p = some (.b t)) (h : t = t') : Fin [.t p] (.b t') .ret ⟨sl, ob, nx, none⟩ := Fin.t (.inr rfl) hg (by rw [h]; exact .pu trivial)
theorem Fin.i {k : IntKind} {n m : Int} (hg : sl.get p = some (.i k n)) (h : n = m) : Fin [.t p] (.i k m) .ret ⟨sl, ob, nx, none⟩ := Fin.t (.inr rfl) hg (by rw [h]; exact .pu trivial)
theorem Fin.two {u u' v v' : D} {e : Ex} (he : e = .normal ∨ e = .ret) (hg : sl.get p = some u) (hg' : sl.get q = some u') (hz : Frz ob u v) (hz' : Frz ob u' v') : Fin [.t p, .t q] (.tp [v, v']) e ⟨sl, ob, nx, none⟩ :=
  ⟨he, .tp [u, u'], by simp only [results, hg, hg']; rfl, .tp (.cons hz (.cons hz' .nil))⟩
end

/-! ### calls that read what the caller has -/
mutual
def Flat : D → Prop
  | .b _ => True
  | .i _ _ => True
  | .ag cs => FlatL cs
  | .tp cs => FlatL cs
  | _ => False
def FlatL : List D → Prop
  | [] => True
  | d :: ds => Flat d ∧ FlatL ds
end
mutual
theorem DV.flat {γ γ' : Gh} {w w' : World} : ∀ (d : D) (v : Value), Flat d → DV γ w d v → DV γ' w' d v
  | .b _, _, _, H => by unfold DV at *; exact H
  | .i _ _, _, _, H => by unfold DV at *; exact H
  | .ag cs, _, p, H => by
    unfold Flat at p
    unfold DV at *
    obtain ⟨vs, h1, h2, h3⟩ := H
    exact ⟨vs, h1, DVL.flat cs _ p h2, h3⟩
  | .tp cs, _, p, H => by
    unfold Flat at p
    unfold DV at *
    obtain ⟨vs, h1, h2⟩ := H
    exact ⟨vs, h1, DVL.flat cs _ p h2⟩
  | .any, _, p, _ => by unfold Flat at p; exact p.elim
  | .s _, _, p, _ => by unfold Flat at p; exact p.elim
  | .np, _, p, _ => by unfold Flat at p; exact p.elim
  | .nf, _, p, _ => by unfold Flat at p; exact p.elim
  | .ni, _, p, _ => by unfold Flat at p; exact p.elim
  | .nm, _, p, _ => by unfold Flat at p; exact p.elim
  | .ns, _, p, _ => by unfold Flat at p; exact p.elim
  | .em, _, p, _ => by unfold Flat at p; exact p.elim
  | .pt _ _ _, _, p, _ => by unfold Flat at p; exact p.elim
  | .sl _ _ _ _ _, _, p, _ => by unfold Flat at p; exact p.elim
  | .mp _, _, p, _ => by unfold Flat at p; exact p.elim
  | .yl _, _, p, _ => by unfold Flat at p; exact p.elim
  | .fn _ _ _, _, p, _ => by unfold Flat at p; exact p.elim
  | .ifc _ _, _, p, _ => by unfold Flat at p; exact p.elim
  | .lst _ _, _, p, _ => by unfold Flat at p; exact p.elim
  | .pl _ _, _, p, _ => by unfold Flat at p; exact p.elim
theorem DVL.flat {γ γ' : Gh} {w w' : World} : ∀ (ds : List D) (vs : List Value), FlatL ds → DVL γ w ds vs → DVL γ' w' ds vs
  | [], _, _, H => by unfold DVL at *; exact H
  | d :: ds, _, p, H => by
    unfold FlatL at p
    unfold DVL at *
    obtain ⟨v, r, h1, h2, h3⟩ := H
    exact ⟨v, r, h1, DV.flat d v p.1 h2, DVL.flat ds r p.2 h3⟩
end
/-- A call that touches nothing, on what the caller has: it reads it, and hands none of it back. -/
theorem PureF.borrow {P : Program} {f : Nat} {ds ds' : List D} {v : D} (h : PureF P f ds' v) {ob : T C} (hz : FzL (fun _ => False) ob ds ds') (hv : Flat v) (nx : Pos) : CallOk P f ds ob nx none v ob nx none := by
  refine ⟨LgLe.refl _, Nat.le_refl _, Keeps.refl _ _, fun so hs γ args w gh hargs hob hnx => ?_⟩
  have hall : ∀ id, so id := fun id => hs id trivial
  let γs : Gh := ⟨fun _ => 0, fun _ _ => (0, 0), fun b => γ.im b ∨ ((∃ id st, st < γ.cur id ∧ (γ.β id st).1 = b) ∧ ∃ vs e fr, w.heap[b]? = some (.cells vs e fr))⟩
  have hargs' : DVL γs w ds' args.toList := by
    have h1 : DV γ w (.tp ds) (.tuple args) := by unfold DV; exact ⟨args, rfl, hargs⟩
    have h2 := Fz.ok (γ := γ) (γ' := γs) (B := fun _ => False) (fun b hb => .inl hb) (fun id c hc => hob id c (hall id) hc) (fun _ h => h.elim) (fun id st vs e fr _ hst hc => .inr ⟨⟨id, st, hst, rfl⟩, vs, e, fr, hc⟩) (.tp hz) _ h1
    obtain ⟨vs, e, h3⟩ := DV_tp h2
    cases e
    exact h3
  obtain ⟨c1, c2⟩ := (h .e .h none).ok (fun _ => True) (fun _ _ => trivial) γs args w ⟨fun _ st h => absurd h (Nat.not_lt_zero st), fun _ st _ _ h => absurd h (Nat.not_lt_zero st), fun b hb => ⟨by
      rcases hb with hb | hb
      · exact (gh.im b hb).1
      · exact hb.2, fun _ st h => absurd h (Nat.not_lt_zero st)⟩, gh.gl.im fun _ h => .inl h⟩ hargs' (fun id c _ hc => by rw [T.get_e] at hc; cases hc) (fun _ _ _ => rfl)
  refine ⟨c1, fun ro m R hR => c2 ro m R fun γ' w' u gh' F hu _ _ => ?_⟩
  have hb : ∀ b, b < w.heap.size → w'.heap[b]? = w.heap[b]? := fun b hb => F.blk b hb fun id st _ hst => absurd hst (Nat.not_lt_zero st)
  have U : Up γ γ w w' := ⟨fun _ => Nat.le_refl _, fun _ _ _ => rfl, F.up.3, fun b hm => ⟨hm, fun o ho => by rw [hb b (Array.getElem?_eq_some_iff.1 ho).1]; exact ho⟩⟩
  exact hR γ w' u ⟨fun id st hst => Nat.lt_of_lt_of_le (gh.ob id st hst) F.size, gh.inj, fun b hm => ⟨let ⟨⟨vs, e, fr, k1⟩, _⟩ := gh.im b hm; ⟨vs, e, fr, (U.im b hm).2 _ k1⟩, (gh.im b hm).2⟩, gh.gl.up U⟩
    ⟨U, fun _ _ => rfl, fun b h1 _ => hb b h1, fun _ _ h1 h2 => absurd h2 (by omega), fun _ h _ => h, F.lp, F.size, F.os, F.tape, F.output, F.fz⟩ (DV.flat v u hv hu)
    (fun id c hid hc => HoldsO.mono U rfl (fun st hst => hb _ (gh.ob id st hst)) (hob id c hid hc)) hnx
theorem WCall.borrow {P : Program} {f : Nat} {ds ds' : List D} {d : Option Pos} {sl : T D} {ob : T C} {nx : Pos} {K : X → Prop} {v : D} (h : PureF P f ds' v) (hz : FzL (fun _ => False) ob ds ds') (hv : Flat v) (k : wDst sl ob nx none d K v) : WCall P f ds d ⟨sl, ob, nx, none⟩ K := by
  cases d with
  | none => exact ⟨v, ob, nx, none, _, h.borrow hz hv nx, rfl, k⟩
  | some d =>
    obtain ⟨h1, h2⟩ := wOut_ok k
    exact ⟨v, ob, nx, none, _, h.borrow hz hv nx, h1, h2⟩

/-- Numbers as a list of Go's. -/
def ints (l : List Int) : List (List D) := l.map fun n => [D.i .i64 n]
theorem ints_length (l : List Int) : (ints l).length = l.length := by simp [ints]
theorem pu_ints (l : List Int) : PuE (ints l) := PuE_iff.2 fun r hr => by
  obtain ⟨n, _, rfl⟩ := List.mem_map.1 hr
  simp [PuL, Pu]
theorem WIx.ints {l : List Int} {n : Int} {F : List D → Prop} (h0 : 0 ≤ n) (h1 : n < l.length) (h : F [D.i .i64 (l.getD n.toNat 0)]) : WIx (ints l) n F := WIx.map (f := fun n => [D.i .i64 n]) h0 h1 h

theorem WIx.at {es : List (List D)} {j : Nat} {r : List D} {F : List D → Prop} (h : es[j]? = some r) (k : F r) : WIx es (j : Int) F := ⟨_, Int.natCast_nonneg j, by rw [Int.toNat_natCast]; exact h, k⟩
theorem WIx.intsN {l : List Int} {j : Nat} {F : List D → Prop} (h : j < l.length) (k : F [D.i .i64 (l.getD j 0)]) : WIx (Go.Ev.ints l) (j : Int) F :=
  WIx.at (r := [D.i .i64 (l.getD j 0)]) (by simp [Go.Ev.ints, List.getD, h]) k
/-- Rows of one kind. -/
def rows {α : Type} (f : α → List D) (l : List α) : List (List D) := l.map f
theorem rows_length {α : Type} (f : α → List D) (l : List α) : (rows f l).length = l.length := by simp [rows]
theorem pu_rows {α : Type} {f : α → List D} (h : ∀ a, PuL (f a)) (l : List α) : PuE (rows f l) := PuE_iff.2 fun r hr => by
  obtain ⟨n, _, rfl⟩ := List.mem_map.1 hr
  exact h n
theorem WIx.rowsN {α : Type} [Inhabited α] {f : α → List D} {l : List α} {j : Nat} {F : List D → Prop} (h : j < l.length) (k : F (f (l.getD j default))) : WIx (rows f l) (j : Int) F :=
  WIx.at (r := f (l.getD j default)) (by simp [rows, List.getD, h]) k
theorem getD_mem {α : Type} {l : List α} {k : Nat} {d : α} (h : k < l.length) : l.getD k d ∈ l := by
  simp [List.getD, h]
theorem all_take_succ {α : Type} {l : List α} {p : α → Bool} {i : Nat} {d : α} (h : i < l.length) (h1 : (l.take i).all p = true) (h2 : p (l.getD i d) = true) : (l.take (i + 1)).all p = true := by
  rw [List.take_succ_eq_append_getElem h, List.all_append, h1]
  simp [List.getD, h] at h2 ⊢
  exact h2
theorem all_false {α : Type} {l : List α} {p : α → Bool} {i : Nat} {d : α} (h : i < l.length) (h2 : p (l.getD i d) = false) : l.all p = false := by
  rw [List.all_eq_false]
  exact ⟨l.getD i d, getD_mem h, by rw [h2]; simp⟩
theorem all_end {α : Type} {l : List α} {p : α → Bool} {i : Nat} (h : l.length ≤ i) (h1 : (l.take i).all p = true) : l.all p = true := by
  rw [List.take_of_length_le h] at h1
  exact h1
section
variable {sl : T D} {ob : T C} {nx : Pos} {K : X → Prop}
/-- A slice that is read off a block of its own, written no more. -/
theorem Frz.whole {id : Pos} {z st : Nat} {cs : List Cell} {cur : Nat} {es : List (List D)} {n : Nat} (h : ob.get id = some (.cells false cs cur)) (hn : n = es.length) (hz : ∀ r ∈ es, r.length = z) (hc : cs = es.flatten.map fun d => Cell.o d st) (hp : PuE es) : Frz ob (.sl id 0 n st z) (.lst z es) := by
  subst hc
  refine .sl (fun h => h) h hn.symm hz (fun k d hk => ⟨.o d st, ?_, ?_, rfl⟩) (FzE.of hp)
  · rw [List.drop_zero, List.getElem?_map, hk]; rfl
  · show Nat.ble st st = true
    exact Nat.ble_eq_true_of_le (Nat.le_refl _)
theorem step_app_empty {d : Pos} {z : Nat} {x y : RX} {a : D} (hx : opd sl x = some a) (ha : a = .ns ∨ a = .em) (hy : opd sl y = some (.lst z [])) : step (.app d z x y) sl ob nx none = some ⟨T.set d a sl, ob, nx, none⟩ := by
  show s_app d z x y sl ob nx none = _
  unfold s_app
  rw [hx, hy]
  have hb : (Nat.beq z z && Nat.beq (List.length (List.flatten ([] : List (List D)))) (Nat.mul (List.length ([] : List (List D))) z)) = true := by
    simp
  simp only [srcK, hb, cond_true]
  rcases ha with rfl | rfl <;> simp only [logO, List.length_nil, outK, T.setK_eq]
theorem step_app_new {d : Pos} {z : Nat} {x y : RX} {a : D} {es : List (List D)} (hx : opd sl x = some a) (ha : a = .ns ∨ a = .em) (hy : opd sl y = some (.lst z es)) (hz : ∀ r ∈ es, r.length = z) (hne : es ≠ []) (hlen : es.length ≤ 2147483648) :
    step (.app d z x y) sl ob nx none = some ⟨T.set d (.sl nx 0 es.length 0 z) sl, T.set nx (.cells false (es.flatten.map fun d => Cell.o d 0) 1) ob, nx.succ, none⟩ := by
  show s_app d z x y sl ob nx none = _
  unfold s_app
  rw [hx, hy]
  have hfl : es.flatten.length = es.length * z := by
    clear hne hlen hy
    induction es with
    | nil => simp
    | cons r es ih => simp [ih (fun r h => hz r (by simp [h])), hz r (by simp), Nat.add_mul]; omega
  have hb : (Nat.beq z z && Nat.beq (List.length (List.flatten es)) (Nat.mul (List.length es) z)) = true := by
    rw [hfl]; simp
  simp only [srcK, hb, cond_true]
  obtain ⟨k, hk⟩ : ∃ k, es.length = k + 1 := ⟨es.length - 1, by have := List.length_pos_iff.2 hne; omega⟩
  rw [hk] at hlen ⊢
  have hle : Nat.ble (Nat.succ k) 2147483648 = true := Nat.ble_eq_true_of_le hlen
  rcases ha with rfl | rfl <;> simp only [logO, hle, cond_true, openK_eq, freshK, logW, T.setK_eq, Pos.succK_eq, outK]
/-- 'append(nil, y...)'. -/
theorem WSt.app_nil {d : Pos} {z : Nat} {x y : RX} {a : D} {es : List (List D)} (hx : opd sl x = some a) (ha : a = .ns ∨ a = .em) (hy : opd sl y = some (.lst z es)) (hz : ∀ r ∈ es, r.length = z) (hlen : es.length ≤ 2147483648)
    (h0 : es = [] → wOut sl ob nx none d K a) (h1 : es ≠ [] → T.setK nx (.cells false (es.flatten.map fun d => Cell.o d 0) 1) ob fun ob => Pos.succK nx fun nx' => wOut sl ob nx' none d K (.sl nx 0 es.length 0 z)) : WSt (.app d z x y) ⟨sl, ob, nx, none⟩ K := by
  by_cases hne : es = []
  · subst hne
    obtain ⟨h2, h3⟩ := wOut_ok (h0 rfl)
    exact ⟨_, step_app_empty hx ha hy, h3⟩
  · have h1 := h1 hne
    rw [T.setK_eq, Pos.succK_eq] at h1
    obtain ⟨h2, h3⟩ := wOut_ok h1
    exact ⟨_, step_app_new hx ha hy hz hne hlen, h3⟩

theorem growK_map {β : Type} {st : Nat} {new : List D} : ∀ (ds : List D) (cur : Nat) (k : List Cell → Option β), cur = st + 1 → growK st cur new ds.length (ds.map fun d => Cell.o d st) k = k ((ds ++ []).map (fun d => Cell.o d st) ++ new.map fun d => Cell.o d cur)
  | [], cur, k, h => by
    show shutK (Nat.pred cur) (dropC (List.length new) []) (fun l => consK (fun d => .o d cur) new l k) = _
    rw [dropC_eq, shutK_eq, consK_eq]
    simp
  | d :: ds, cur, k, h => by
    have hb : Nat.ble st st = true := Nat.ble_eq_true_of_le (Nat.le_refl _)
    show (bif Nat.ble st st then growK st cur new ds.length (ds.map fun d => Cell.o d st) (fun l => k (.o d st :: l)) else none) = _
    rw [hb]
    simp only [cond_true]
    rw [growK_map ds cur _ h]
    simp
/-- 'append(x, y)', x of the call's own, y one row just built. -/
theorem WSt.app_one {d id idy : Pos} {z st len len' cur curY : Nat} {roY : Bool} {x y : RX} {ds r : List D} {csY : List Cell} {ob2 : T C} (hx : opd sl x = some (.sl id 0 len st z)) (hy : opd sl y = some (.sl idy 0 1 0 z)) (hoy : ob.get idy = some (.cells roY csY curY)) (hcy : csY = r.map fun d => Cell.o d 0) (hr : r.length = z) (hox : ob.get id = some (.cells false (ds.map fun d => Cell.o d st) cur)) (hds : ds.length = len * z) (hcur : cur = st + 1) (hlen : len' = len + 1) (hmax : len < 2147483648)
    (hob2 : T.set id (.cells false ((ds.map fun d => Cell.o d st) ++ r.map fun d => Cell.o d cur) (cur + 1)) ob = ob2) (h : wOut sl ob2 nx none d K (.sl id 0 len' cur z)) : WSt (.app d z x y) ⟨sl, ob, nx, none⟩ K := by
  obtain ⟨h2, h3⟩ := wOut_ok h
  refine ⟨_, ?_, h3⟩
  show s_app d z x y sl ob nx none = _
  unfold s_app
  rw [hx, hy]
  subst hcy hr hlen hob2
  have hb : Nat.beq r.length r.length = true := Nat.beq_refl _
  have hrd : readK (β := X) 0 (Nat.mul 1 r.length) (dropC 0 (r.map fun d => Cell.o d 0)) = fun k => k r := by
    rw [dropC_eq, List.drop_zero, show Nat.mul 1 r.length = r.length from Nat.one_mul _]
    have key : ∀ (l : List D) (k : List D → Option X), readK 0 l.length (l.map fun d => Cell.o d 0) k = k l := by
      intro l
      induction l with
      | nil => exact fun k => rfl
      | cons a l ih => exact fun k => ih fun ds => k (a :: ds)
    exact funext fun k => key r k
  simp only [srcK, hb, cond_true, hoy, hrd, logO, logR]
  simp only [hox]
  have hidx : Nat.add 0 (Nat.mul len r.length) = ds.length := by rw [hds]; exact Nat.zero_add _
  rw [hidx, growK_map ds cur _ hcur]
  simp only [List.append_nil, natK_eq, objOutK, logW, T.setK_eq]
  have e1 : Nat.add len (Nat.succ 0) = len + 1 := rfl
  rw [e1, Nat.ble_eq_true_of_le (show len + 1 ≤ 2147483648 from hmax)]
  exact h2
/-- 'append(nil, y)', y one row just built. -/
theorem WSt.app_first {d idy : Pos} {z curY : Nat} {roY : Bool} {x y : RX} {a : D} {r : List D} {csY : List Cell} (hx : opd sl x = some a) (ha : a = .ns ∨ a = .em) (hy : opd sl y = some (.sl idy 0 1 0 z)) (hoy : ob.get idy = some (.cells roY csY curY)) (hcy : csY = r.map fun d => Cell.o d 0) (hr : r.length = z)
    (h : T.setK nx (.cells false (r.map fun d => Cell.o d 0) 1) ob fun ob => Pos.succK nx fun nx' => wOut sl ob nx' none d K (.sl nx 0 1 0 z)) : WSt (.app d z x y) ⟨sl, ob, nx, none⟩ K := by
  rw [T.setK_eq, Pos.succK_eq] at h
  obtain ⟨h2, h3⟩ := wOut_ok h
  refine ⟨_, ?_, h3⟩
  show s_app d z x y sl ob nx none = _
  unfold s_app
  rw [hx, hy]
  subst hcy hr
  have hb : Nat.beq r.length r.length = true := Nat.beq_refl _
  have hrd : readK (β := X) 0 (Nat.mul 1 r.length) (dropC 0 (r.map fun d => Cell.o d 0)) = fun k => k r := by
    rw [dropC_eq, List.drop_zero, show Nat.mul 1 r.length = r.length from Nat.one_mul _]
    have key : ∀ (l : List D) (k : List D → Option X), readK 0 l.length (l.map fun d => Cell.o d 0) k = k l := by
      intro l
      induction l with
      | nil => exact fun k => rfl
      | cons a l ih => exact fun k => ih fun ds => k (a :: ds)
    exact funext fun k => key r k
  simp only [srcK, hb, cond_true, hoy, hrd, logO, logR]
  have hle : Nat.ble (Nat.succ 0) 2147483648 = true := rfl
  rcases ha with rfl | rfl <;> simp only [hle, cond_true, openK_eq, freshK, logW, T.setK_eq, Pos.succK_eq] <;> exact h2
end
theorem ShC.grown {B : Pos → Prop} {ob : T C} {ds r : List D} {st cur c : Nat} (h : st ≤ cur) (hp : PuL (ds ++ r)) : ShC B ob (.cells false ((ds.map fun d => Cell.o d st) ++ r.map fun d => Cell.o d cur) c) (.cells false ((ds ++ r).map fun d => Cell.o d cur) c) := by
  refine .cells fun k c' hc => ?_
  rw [List.getElem?_map] at hc
  cases hd : (ds ++ r)[k]? with
  | none => rw [hd] at hc; cases hc
  | some d =>
    rw [hd] at hc
    cases hc
    have hpd : Pu d := PuL_iff.1 hp d (List.mem_of_getElem? hd)
    by_cases hlt : k < ds.length
    · rw [List.getElem?_append_left hlt] at hd
      refine ⟨.o d st, by rw [List.getElem?_append_left (by simpa using hlt), List.getElem?_map, hd]; rfl, fun s hs => ?_, .pu hpd⟩
      have hs : Nat.ble cur s = true := hs
      exact Nat.ble_eq_true_of_le (Nat.le_trans h (Nat.le_of_ble_eq_true hs))
    · rw [List.getElem?_append_right (by omega)] at hd
      refine ⟨.o d cur, by rw [List.getElem?_append_right (by simp; omega), List.getElem?_map, List.length_map, hd]; rfl, fun s hs => hs, .pu hpd⟩
theorem ints_flatten (l : List Int) : (ints l).flatten = l.map fun n => D.i .i64 n := by
  unfold ints
  induction l with
  | nil => rfl
  | cons a l ih => simp at ih ⊢; exact ih
theorem puL_map_i (l : List Int) : PuL (l.map fun n => D.i .i64 n) := PuL_iff.2 fun d hd => by
  obtain ⟨n, _, rfl⟩ := List.mem_map.1 hd
  exact trivial
theorem take_succ_getD {α : Type} {l : List α} {j : Nat} {d : α} (h : j < l.length) : l.take (j + 1) = l.take j ++ [l.getD j d] := by
  rw [List.take_succ_eq_append_getElem h]; simp [List.getD, h]
end Go.Ev
