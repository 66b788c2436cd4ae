import Derived.Test.YtpemagogcagipaaEvL
set_option linter.all false
namespace Go.Ev
open Go.RowKit (Below)

section
variable {P : Program} {V : Sel} {γ : Gh} {a : Act} {w : World} {sl : T D} {ob : T C} {nx : Pos} {lg : Option (T Bool)} {nt : Nat} {o : Oper} {ro : Option Nat}

theorem logO_ok {id : Option Pos} {k : Option (T Bool) → Option X} {Z : X} (h : logO lg id k = some Z) : ∃ lg', k lg' = some Z ∧ LgLe lg lg' ∧ ∀ j, id = some j → tchd lg' j := by
  cases id with
  | none => exact ⟨lg, h, LgLe.refl _, fun j e => by cases e⟩
  | some i =>
    obtain ⟨lg', h1, h2, h3⟩ := logR_ok h
    exact ⟨lg', h1, h2, fun j e => by cases e; exact h3⟩

/-- What a slice that is copied from has. -/
theorem srcK_ok {z : Nat} {y : D} {k : Option Pos → Nat → List D → Option X} {Z : X} (h : srcK ob z y k = some Z) :
    ∃ idy n ds, k idy n ds = some Z ∧ ds.length = n * z ∧ ∀ {V : Sel} {γ : Gh} {a : Act} {w : World} {v : Value}, Rep P V γ a w ⟨sl, ob, nx, lg⟩ → (∀ j, idy = some j → V.so j) → DV γ w y v → ∀ {tx e' : TypeId}, P.underlying tx = some (.slice e') →
      ∃ us : List Value, Src P z tx v n us w ∧ DVL γ w ds us ∧ (∃ ad cap, v = .slice ad n cap) ∧ ∀ u ∈ us, u.oneCell' = true := by
  unfold srcK at h
  split at h
  · refine ⟨none, 0, [], h, by simp, fun {V γ a w v} R _ hv {tx e'} hu => ⟨[], ?_, DVL.nil, ?_, by simp⟩⟩
    · unfold DV at hv; subst hv; exact Src.ofNil w hu 0
    · unfold DV at hv; exact ⟨none, 0, hv⟩
  · refine ⟨none, 0, [], h, by simp, fun {V γ a w v} R _ hv {tx e'} hu => ?_⟩
    unfold DV at hv
    obtain ⟨ad, rfl⟩ := hv
    exact ⟨[], Src.ofSlice w hu ad 0 0 [] (by simp) (by simp) (by simp), DVL.nil, ⟨_, _, rfl⟩, by simp⟩
  · rename_i id off len st z'
    cases hb : Nat.beq z z' with
    | false => rw [hb] at h; cases h
    | true =>
      rw [hb] at h
      simp only [cond_true] at h
      obtain rfl := Nat.eq_of_beq_eq_true hb
      split at h
      · rename_i q cs cur hob
        obtain ⟨ds, h1, h2, h3⟩ := readK_ok h
        rw [dropC_eq] at h3
        refine ⟨some id, len, ds, h1, h2, fun {V γ a w v} R hj hv {tx e'} hu => ?_⟩
        obtain ⟨e1, e2, cap, e, n, rfl, e4, e5, e6⟩ := DV_sl hv
        obtain ⟨us, q1, q2, q3, q4⟩ := cells_at (R.ob id _ (hj id rfl) hob) e1 e2 h2 h3
        refine ⟨us, Src.ofSlice w hu ⟨_, _, none⟩ len cap us q1 (fun j u hu => by rw [Addr.add_mid]; exact q2 j u hu) q4, q3, ⟨_, _, rfl⟩, q4⟩
      · cases h
  · rename_i z' es
    cases hb : (Nat.beq z z' && Nat.beq (List.length (List.flatten es)) (Nat.mul (List.length es) z)) with
    | false => rw [hb] at h; cases h
    | true =>
      rw [hb] at h
      simp only [cond_true] at h
      rw [Bool.and_eq_true] at hb
      obtain rfl := Nat.eq_of_beq_eq_true hb.1
      have hlen : es.flatten.length = es.length * z := Nat.eq_of_beq_eq_true hb.2
      refine ⟨none, es.length, es.flatten, h, hlen, fun {V γ a w v} R _ hv {tx e'} hu => ?_⟩
      obtain ⟨p, cap, rfl, e4, e6, e5⟩ := DV_lst hv
      rcases e5 with rfl | ⟨b, o, vs, e, fr, k1, k2, rfl, k4, k5, k6⟩
      · cases p with
        | none =>
          obtain rfl := e6 rfl
          exact ⟨[], Src.ofNil w hu 0, DVL.nil, ⟨_, _, rfl⟩, by simp⟩
        | some ad => exact ⟨[], Src.ofSlice w hu ad 0 cap [] (by simp) (by simp) (by simp), DVL.nil, ⟨_, _, rfl⟩, by simp⟩
      · have hl2 : ((vs.toList.drop o).take (es.length * z)).length = es.length * z := by simp; omega
        refine ⟨(vs.toList.drop o).take (es.length * z), Src.ofSlice w hu ⟨b, o, none⟩ es.length cap _ hl2 (fun j u hu => ?_) k6, DVE_flat k5, ⟨_, _, rfl⟩, k6⟩
        have hj : j < es.length * z := by have := (List.getElem?_eq_some_iff.1 hu).1; rw [hl2] at this; exact this
        rw [List.getElem?_take_of_lt hj, List.getElem?_drop] at hu
        rw [Addr.add_mid]
        unfold World.cell?
        simp [k2] at hu ⊢
        exact hu
  · cases h

/-- A new block for what grew. -/
theorem grow_new (g : G ro γ a w) (id : Pos) (δ : Nat) (obj : Obj) (hobj : ∀ vs e fr, obj = .cells vs e fr → fr = (0, 0)) : Fr (fun j => j = id) γ (γ.push id (w.heap.size, δ)) w (w.drew.alloc obj) ∧ ∀ a' : Act, a'.defers = a.defers → G ro (γ.push id (w.heap.size, δ)) a' (w.drew.alloc obj) :=
  push_all g id w.heap.size δ (by rw [size_alloc']; show _ ≤ w.heap.size + 1; omega) (.inl ⟨Nat.le_refl _, by rw [size_alloc']; show _ < w.heap.size + 1; omega⟩) (fun c hc _ => heap_alloc_lt w.drew obj hc)
    (fun c x hx => by rw [shape_same (heap_alloc_lt w.drew obj (shape_lt hx))]; exact hx)
    (fun c r hr => ⟨r, by rw [heap_alloc_lt w.drew obj (Array.getElem?_eq_some_iff.1 hr).1]; exact hr⟩) ⟨rfl, rfl, rfl⟩ (fun x => frozen_alloc w.drew obj hobj x)

theorem run_builtin {b : Builtin} {args : Array Operand} {tys : Array TypeId} (ho : o.op = .call { callee := .builtin b, args := args, argTypes := tys }) (a : Act) (w : World) :
    ∃ cs, (execOp a.eval o).run P w = (builtin b tys o.type cs (args.map a.eval)).run P w := by
  exact ⟨args.map fun | .const _ => true | _ => false, by
    simp only [execOp, ho, resolve, Sem.run_bind, Sem.run_pure, Result.andThen_ok, invoke]
    congr⟩
theorem run_append {args : Array Operand} {t tx : TypeId} {x y : Operand} (ho : o.op = .call { callee := .builtin .append, args := args, argTypes := #[t, tx] }) (ha : args = #[x, y]) {v : Value} {w' : World}
    (h : (Builtin.append_ #[t, tx] o.type #[a.eval x, a.eval y]).run P w = .ok v w') : (execOp a.eval o).run P w = .ok (.value v) w' := by
  subst ha
  obtain ⟨cs, h1⟩ := run_builtin (P := P) ho a w
  rw [h1]
  simp [builtin, h]

/-- A slice over a block that grew, at its own stamp. -/
theorem fresh_rows {ds : List D} {us : List Value} {el : TypeId} {k cap z : Nat} (g : G ro γ a w) (R : Rep P V γ a w ⟨sl, ob, nx, lg⟩) (hso : V.so nx) (h0 : γ.cur nx = 0) (hds : DVL γ w ds us) (h1 : ∀ u ∈ us, u.oneCell' = true) (hk : us.length = k * z) (hcap : k ≤ cap)
    {rest : Array Value} (hrest : rest.size = (cap - k) * z) :
    ∃ γ', Fr (fun j => j = nx) γ γ' w (w.drew.alloc (.cells (us.toArray ++ rest) el)) ∧ (∀ a' : Act, a'.defers = a.defers → G ro γ' a' (w.drew.alloc (.cells (us.toArray ++ rest) el))) ∧
      DV γ' (w.drew.alloc (.cells (us.toArray ++ rest) el)) (.sl nx 0 k 0 z) (.slice (some ⟨w.heap.size, 0, none⟩) k cap) ∧
      (∀ id c, V.so id → (T.set nx (.cells false (ds.map fun d => .o d 0) 1) ob).get id = some c → HoldsO P γ' (w.drew.alloc (.cells (us.toArray ++ rest) el)) id c) ∧ (∀ id, V.so id → nx.succ.nat ≤ id.nat → γ'.cur id = 0) := by
  obtain ⟨F, g'⟩ := grow_new g nx 0 (.cells (us.toArray ++ rest) el) (fun vs e fr h => by cases h; rfl)
  have hb := γ.push_β nx (w.heap.size, 0)
  rw [h0] at hb
  have hcur : (γ.push nx (w.heap.size, 0)).cur nx = 1 := by rw [γ.push_cur, h0]
  have hh : (w.drew.alloc (.cells (us.toArray ++ rest) el)).heap[w.heap.size]? = some (.cells (us.toArray ++ rest) el) := heap_alloc_self w.drew _
  refine ⟨_, F, g', ?_, others_hold R g F fun _ => ?_, fun id hid hle => ?_⟩
  · unfold DV
    rw [hb, hcur]
    refine ⟨Nat.one_pos, Nat.le_refl _, cap, el, _, rfl, hcap, shape_cells hh, ?_⟩
    simp only [Array.size_append, List.size_toArray, hk, hrest, Nat.sub_zero, Nat.zero_add]
    rw [← Nat.add_mul]
    exact Nat.mul_le_mul_right _ (by omega)
  · refine ⟨Nat.one_pos, hcur, fun st hst => ?_⟩
    obtain rfl : st = 0 := by omega
    rw [hb]
    refine ⟨_, el, (0, 0), hh, fun _ => rfl, fun p c hp _ _ => ?_⟩
    rw [List.getElem?_map] at hp
    cases hd : ds[p]? with
    | none => rw [hd] at hp; cases hp
    | some d =>
      rw [hd] at hp
      cases hp
      obtain ⟨h2, h3⟩ := DVL_iff.1 hds
      have hlt : p < us.length := by have := (List.getElem?_eq_some_iff.1 hd).1; omega
      refine ⟨us[p], ?_, DV.mono F.up _ _ (h3 p d _ hd (List.getElem?_eq_getElem hlt)), h1 _ (List.getElem_mem _)⟩
      rw [Nat.sub_zero, Array.getElem?_append_left (by simpa using hlt)]
      simp [hlt]
  · rw [Pos.succ_nat] at hle
    have hne : id ≠ nx := by rintro rfl; omega
    rw [γ.push_cur_ne _ hne]
    exact R.nx id hid (by show nx.nat ≤ id.nat; omega)

theorem zeroCells_size (z : Array Value) (n : Nat) : (Builtin.zeroCells z n).size = n * z.size := by simp [Builtin.zeroCells]
theorem nextslicecap_zero' {n : Nat} : Builtin.nextslicecap n 0 ≤ n ∨ n = 0 := by
  unfold Builtin.nextslicecap
  by_cases h : n > 2 * 0
  · rw [if_pos h]; exact .inl (Nat.le_refl _)
  · exact .inr (by omega)

/-- append: what has grown, at a new stamp: in its own block. -/
theorem append_room {id : Pos} {cs : List Cell} {cur st n : Nat} {ds : List D} {us : List Value} (g : G ro γ a w) (H : HoldsO P γ w id (.cells false cs cur)) (hst : st < γ.cur id) (hd : (γ.β id st).2 ≤ n) (hn : n ≤ cs.length) (hop : OpenTo st (cs.take n))
    (hds : DVL γ w ds us) (h1 : ∀ u ∈ us, u.oneCell' = true) {e : TypeId} {sz : Nat} (hsh : w.shape? (γ.β id st).1 = some (e, sz)) (hroom : n - (γ.β id st).2 + us.length ≤ sz) :
    ∃ γ', γ' = γ.push id (γ.β id st) ∧ Fr (fun j => j = id) γ γ' w (w.setCells (γ.β id st).1 (n - (γ.β id st).2) us) ∧ (∀ a' : Act, a'.defers = a.defers → G ro γ' a' (w.setCells (γ.β id st).1 (n - (γ.β id st).2) us)) ∧
      HoldsO P γ' (w.setCells (γ.β id st).1 (n - (γ.β id st).2) us) id (.cells false (cs.take n ++ (ds.map (fun d => .o d cur) ++ (cs.drop (n + ds.length)).map (shutC (cur - 1)))) (cur + 1)) ∧
      (∀ j, j < us.length → (w.cell? ⟨(γ.β id st).1, n - (γ.β id st).2 + j, none⟩).isSome = true) ∧ (∀ j, j < us.length → w.frozen? ⟨(γ.β id st).1, n - (γ.β id st).2 + j, none⟩ = false) := by
  obtain ⟨h2, h3, h4⟩ := H
  obtain ⟨vs, e', fr, h5, h6, h7⟩ := h4 st (by omega)
  obtain rfl := h6 rfl
  have hsz : vs.size = sz := by
    rw [shape_cells h5] at hsh
    cases hsh; rfl
  subst hsz
  have hlen : us.length = ds.length := (DVL_iff.1 hds).1.symm
  have key := push_all (w' := w.setCells (γ.β id st).1 (n - (γ.β id st).2) us) (b := (γ.β id st).1) (δ := (γ.β id st).2) g id (by rw [size_setCells]; exact Nat.le_refl _) (.inr ⟨st, hst, rfl⟩)
    (fun c hc hn => heap_setCells_ne us w _ _ (fun e => hn st hst e.symm)) (shape_setCells h5 hroom) (loop_setCells h5) (os_setCells us w _ _) (fun x => World.frozen?_setCells _ _ _ _ x)
  obtain ⟨F, g'⟩ := key
  refine ⟨_, rfl, F, g', ⟨by omega, by rw [γ.push_cur, h3], fun s hs => ?_⟩, fun j hj => ?_, fun j hj => ?_⟩
  · have hat : ∀ p : Nat, (cs.take n ++ (ds.map (fun d => Cell.o d cur) ++ (cs.drop (n + ds.length)).map (shutC (cur - 1))))[p]? = if p < n then cs[p]? else if p < n + ds.length then (ds[p - n]?).map (fun d => Cell.o d cur) else (cs[p]?).map (shutC (cur - 1)) := by
      intro p
      by_cases hp : p < n
      · rw [if_pos hp, List.getElem?_append_left (by simp; omega), List.getElem?_take_of_lt hp]
      · rw [if_neg hp, List.getElem?_append_right (by simp; omega)]
        have hl : (cs.take n).length = n := by simp; omega
        rw [hl]
        by_cases hp2 : p < n + ds.length
        · rw [if_pos hp2, List.getElem?_append_left (by simp; omega), List.getElem?_map]
        · rw [if_neg hp2, List.getElem?_append_right (by simp; omega), List.getElem?_map, List.getElem?_drop]
          congr 2; simp; omega
    have hself := heap_setCells_self us h5 hroom
    have hsp : ∀ i : Nat, (splice vs.toList (n - (γ.β id st).2) us).toArray[i]? = (splice vs.toList (n - (γ.β id st).2) us)[i]? := by intro i; simp
    -- an old claim, in the block that was written
    have old : ∀ s0, s0 < γ.cur id → (γ.β id s0).1 = (γ.β id st).1 → ∀ (p : Nat) c, cs[p]? = some c → c.has s0 = true → (γ.β id st).2 ≤ p → (p < n ∨ n + ds.length ≤ p) → ∃ u, (splice vs.toList (n - (γ.β id st).2) us)[p - (γ.β id st).2]? = some u ∧ DV (γ.push id (γ.β id st)) (w.setCells (γ.β id st).1 (n - (γ.β id st).2) us) c.d u ∧ u.oneCell' = true := by
      intro s0 hs0 hb p c hp hh hdp hpos
      obtain ⟨vs2, e2, fr2, k1, k2, k3⟩ := h4 s0 (by omega)
      have hδ : (γ.β id s0).2 = (γ.β id st).2 := (g.inj id s0 id st hs0 hst hb).2
      rw [hb, h5] at k1
      cases k1
      rw [hδ] at k3
      obtain ⟨u, q1, q2, q3⟩ := k3 p c hp hh hdp
      refine ⟨u, ?_, DV.mono F.up _ _ q2, q3⟩
      rw [splice_at (by simpa using hroom)]
      rcases hpos with hpos | hpos
      · rw [if_pos (by omega)]; simpa using q1
      · rw [if_neg (by omega), if_neg (by omega)]; simpa using q1
    rcases Nat.lt_succ_iff_lt_or_eq.1 hs with hs | hs
    · have hs' : s < γ.cur id := by omega
      rw [γ.push_β_old id _ hs']
      by_cases hb : (γ.β id s).1 = (γ.β id st).1
      · have hδ : (γ.β id s).2 = (γ.β id st).2 := (g.inj id s id st hs' hst hb).2
        refine ⟨_, e', (0, 0), by rw [hb]; exact hself, fun _ => rfl, fun p c hp hh hdp => ?_⟩
        rw [hat] at hp
        rw [hδ] at hdp ⊢
        rw [hsp]
        by_cases hp1 : p < n
        · rw [if_pos hp1] at hp
          exact old s hs' hb p c hp hh hdp (.inl hp1)
        · rw [if_neg hp1] at hp
          by_cases hp2 : p < n + ds.length
          · rw [if_pos hp2] at hp
            cases hd2 : ds[p - n]? with
            | none => rw [hd2] at hp; cases hp
            | some d =>
              rw [hd2] at hp
              cases hp
              have := Nat.le_of_ble_eq_true hh
              omega
          · rw [if_neg hp2] at hp
            cases hc : cs[p]? with
            | none => rw [hc] at hp; cases hp
            | some c0 =>
              rw [hc] at hp
              cases hp
              rw [shutC_d]
              exact old s hs' hb p c0 hc (shutC_has hh).1 hdp (.inr (by omega))
      · obtain ⟨vs2, e2, fr2, k1, k2, k3⟩ := h4 s hs
        refine ⟨vs2, e2, fr2, by rw [heap_setCells_ne us w _ _ hb]; exact k1, k2, fun p c hp hh hdp => ?_⟩
        rw [hat] at hp
        by_cases hp1 : p < n
        · rw [if_pos hp1] at hp
          obtain ⟨u, q1, q2, q3⟩ := k3 p c hp hh hdp
          exact ⟨u, q1, DV.mono F.up _ _ q2, q3⟩
        · rw [if_neg hp1] at hp
          by_cases hp2 : p < n + ds.length
          · rw [if_pos hp2] at hp
            cases hd2 : ds[p - n]? with
            | none => rw [hd2] at hp; cases hp
            | some d =>
              rw [hd2] at hp
              cases hp
              have := Nat.le_of_ble_eq_true hh
              omega
          · rw [if_neg hp2] at hp
            cases hc : cs[p]? with
            | none => rw [hc] at hp; cases hp
            | some c0 =>
              rw [hc] at hp
              cases hp
              rw [shutC_d]
              obtain ⟨u, q1, q2, q3⟩ := k3 p c0 hc (shutC_has hh).1 hdp
              exact ⟨u, q1, DV.mono F.up _ _ q2, q3⟩
    · obtain rfl : s = γ.cur id := by omega
      rw [γ.push_β]
      refine ⟨_, e', (0, 0), hself, fun _ => rfl, fun p c hp hh hdp => ?_⟩
      rw [hat] at hp
      rw [hsp]
      by_cases hp1 : p < n
      · rw [if_pos hp1] at hp
        obtain ⟨d, lo, rfl, hlo⟩ := hop c (by
          rw [List.mem_iff_getElem?]
          exact ⟨p, by rw [List.getElem?_take_of_lt hp1]; exact hp⟩)
        exact old st hst rfl p _ hp (Nat.ble_eq_true_of_le hlo) hdp (.inl hp1)
      · rw [if_neg hp1] at hp
        by_cases hp2 : p < n + ds.length
        · rw [if_pos hp2] at hp
          cases hd2 : ds[p - n]? with
          | none => rw [hd2] at hp; cases hp
          | some d =>
            rw [hd2] at hp
            cases hp
            have hlt : p - n < us.length := by have := (List.getElem?_eq_some_iff.1 hd2).1; omega
            refine ⟨us[p - n], ?_, DV.mono F.up _ _ ((DVL_iff.1 hds).2 _ d _ hd2 (List.getElem?_eq_getElem hlt)), h1 _ (List.getElem_mem _)⟩
            rw [splice_at (by simpa using hroom), if_neg (by omega), if_pos (by omega), show p - (γ.β id st).2 - (n - (γ.β id st).2) = p - n by omega]
            exact List.getElem?_eq_getElem hlt
        · rw [if_neg hp2] at hp
          cases hc : cs[p]? with
          | none => rw [hc] at hp; cases hp
          | some c0 =>
            rw [hc] at hp
            cases hp
            have := (shutC_has hh).2
            omega
  · have : n - (γ.β id st).2 + j < vs.size := by omega
    simp [World.cell?, h5, this]
  · simp [World.frozen?, h5]
end
end Go.Ev
