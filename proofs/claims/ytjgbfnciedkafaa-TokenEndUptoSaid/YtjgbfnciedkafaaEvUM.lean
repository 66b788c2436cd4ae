import Derived.Test.YtjgbfnciedkafaaEvUK
set_option linter.all false
namespace Go.Ev
open Go.RowKit (Below)

section
variable {P : Program} {V : Sel} {γ : Gh} {a : Act} {w : World} {sl : T D} {ob : T C} {nx : Pos} {lg : Option (T Bool)} {nt : Nat} {o : Oper} {ro : Option Nat}

theorem logO_ok {id : Option Pos} {k : Option (T Bool) → Option X} {Z : X} (h : logO lg id k = some Z) : ∃ lg', k lg' = some Z ∧ LgLe lg lg' ∧ ∀ j, id = some j → tchd lg' j := by
  cases id with
  | none => exact ⟨lg, h, LgLe.refl _, fun j e => by cases e⟩
  | some i =>
    obtain ⟨lg', h1, h2, h3⟩ := logR_ok h
    exact ⟨lg', h1, h2, fun j e => by cases e; exact h3⟩

theorem srcK_ok {z : Nat} {y : D} {k : Option Pos → Nat → List D → Option X} {Z : X} (h : srcK ob z y k = some Z) :
    ∃ idy n ds, k idy n ds = some Z ∧ ds.length = n * z ∧ ∀ {V : Sel} {γ : Gh} {a : Act} {w : World} {v : Value}, Rep P V γ a w ⟨sl, ob, nx, lg⟩ → (∀ j, idy = some j → V.so j) → DV γ w y v → ∀ {tx e' : TypeId}, P.underlying tx = some (.slice e') →
      ∃ us : List Value, Src P z tx v n us w ∧ DVL γ w ds us ∧ (∃ ad cap, v = .slice ad n cap) ∧ ∀ u ∈ us, u.oneCell' = true := by
  unfold srcK at h
  split at h
  · refine ⟨none, 0, [], h, by simp, fun {V γ a w v} R _ hv {tx e'} hu => ⟨[], ?_, DVL.nil, ?_, by simp⟩⟩
    · unfold DV at hv; subst hv; exact Src.ofNil w hu 0
    · unfold DV at hv; exact ⟨none, 0, hv⟩
  · refine ⟨none, 0, [], h, by simp, fun {V γ a w v} R _ hv {tx e'} hu => ?_⟩
    unfold DV at hv
    obtain ⟨ad, rfl⟩ := hv
    exact ⟨[], Src.ofSlice w hu ad 0 0 [] (by simp) (by simp) (by simp), DVL.nil, ⟨_, _, rfl⟩, by simp⟩
  · rename_i id off len st z'
    cases hb : Nat.beq z z' with
    | false => rw [hb] at h; cases h
    | true =>
      rw [hb] at h
      simp only [cond_true] at h
      obtain rfl := Nat.eq_of_beq_eq_true hb
      split at h
      · rename_i q cs cur hob
        obtain ⟨ds, h1, h2, h3⟩ := readK_ok h
        rw [dropC_eq] at h3
        refine ⟨some id, len, ds, h1, h2, fun {V γ a w v} R hj hv {tx e'} hu => ?_⟩
        obtain ⟨e1, e2, cap, e, n, rfl, e4, e5, e6⟩ := DV_sl hv
        obtain ⟨us, q1, q2, q3, q4⟩ := cells_at (R.ob id _ (hj id rfl) hob) e1 e2 h2 h3
        refine ⟨us, Src.ofSlice w hu ⟨_, _, none⟩ len cap us q1 (fun j u hu => by rw [Addr.add_mid]; exact q2 j u hu) q4, q3, ⟨_, _, rfl⟩, q4⟩
      · cases h
  · rename_i z' es
    cases hb : (Nat.beq z z' && Nat.beq (List.length (List.flatten es)) (Nat.mul (List.length es) z)) with
    | false => rw [hb] at h; cases h
    | true =>
      rw [hb] at h
      simp only [cond_true] at h
      rw [Bool.and_eq_true] at hb
      obtain rfl := Nat.eq_of_beq_eq_true hb.1
      have hlen : es.flatten.length = es.length * z := Nat.eq_of_beq_eq_true hb.2
      refine ⟨none, es.length, es.flatten, h, hlen, fun {V γ a w v} R _ hv {tx e'} hu => ?_⟩
      obtain ⟨p, cap, rfl, e4, e6, e5⟩ := DV_lst hv
      rcases e5 with rfl | ⟨b, o, vs, e, fr, k1, k2, rfl, k4, k5, k6⟩
      · cases p with
        | none =>
          obtain rfl := e6 rfl
          exact ⟨[], Src.ofNil w hu 0, DVL.nil, ⟨_, _, rfl⟩, by simp⟩
        | some ad => exact ⟨[], Src.ofSlice w hu ad 0 cap [] (by simp) (by simp) (by simp), DVL.nil, ⟨_, _, rfl⟩, by simp⟩
      · have hl2 : ((vs.toList.drop o).take (es.length * z)).length = es.length * z := by simp; omega
        refine ⟨(vs.toList.drop o).take (es.length * z), Src.ofSlice w hu ⟨b, o, none⟩ es.length cap _ hl2 (fun j u hu => ?_) k6, DVE_flat k5, ⟨_, _, rfl⟩, k6⟩
        have hj : j < es.length * z := by have := (List.getElem?_eq_some_iff.1 hu).1; rw [hl2] at this; exact this
        rw [List.getElem?_take_of_lt hj, List.getElem?_drop] at hu
        rw [Addr.add_mid]
        unfold World.cell?
        simp [k2] at hu ⊢
        exact hu
  · cases h

theorem grow_new (g : G ro γ a w) (id : Pos) (δ : Nat) (obj : Obj) (hobj : ∀ vs e fr, obj = .cells vs e fr → fr = (0, 0)) : Fr (fun j => j = id) γ (γ.push id (w.heap.size, δ)) w (w.drew.alloc obj) ∧ ∀ a' : Act, a'.defers = a.defers → G ro (γ.push id (w.heap.size, δ)) a' (w.drew.alloc obj) :=
  push_all g id w.heap.size δ (by rw [size_alloc']; show _ ≤ w.heap.size + 1; omega) (.inl ⟨Nat.le_refl _, by rw [size_alloc']; show _ < w.heap.size + 1; omega⟩) (fun c hc _ => heap_alloc_lt w.drew obj hc)
    (fun c x hx => by rw [shape_same (heap_alloc_lt w.drew obj (shape_lt hx))]; exact hx)
    (fun c r hr => ⟨r, by rw [heap_alloc_lt w.drew obj (Array.getElem?_eq_some_iff.1 hr).1]; exact hr⟩) ⟨rfl, rfl, rfl⟩ (fun x => frozen_alloc w.drew obj hobj x)

theorem run_builtin {b : Builtin} {args : Array Operand} {tys : Array TypeId} (ho : o.op = .call { callee := .builtin b, args := args, argTypes := tys }) (a : Act) (w : World) :
    ∃ cs, (execOp a.eval o).run P w = (builtin b tys o.type cs (args.map a.eval)).run P w := by
  exact ⟨args.map fun | .const _ => true | _ => false, by
    simp only [execOp, ho, resolve, Sem.run_bind, Sem.run_pure, Result.andThen_ok, invoke]
    congr⟩
theorem run_append {args : Array Operand} {t tx : TypeId} {x y : Operand} (ho : o.op = .call { callee := .builtin .append, args := args, argTypes := #[t, tx] }) (ha : args = #[x, y]) {v : Value} {w' : World}
    (h : (Builtin.append_ #[t, tx] o.type #[a.eval x, a.eval y]).run P w = .ok v w') : (execOp a.eval o).run P w = .ok (.value v) w' := by
  subst ha
  obtain ⟨cs, h1⟩ := run_builtin (P := P) ho a w
  rw [h1]
  simp [builtin, h]

theorem fresh_rows {ds : List D} {us : List Value} {el : TypeId} {k cap z : Nat} (g : G ro γ a w) (R : Rep P V γ a w ⟨sl, ob, nx, lg⟩) (hso : V.so nx) (h0 : γ.cur nx = 0) (hds : DVL γ w ds us) (h1 : ∀ u ∈ us, u.oneCell' = true) (hk : us.length = k * z) (hcap : k ≤ cap)
    {rest : Array Value} (hrest : rest.size = (cap - k) * z) :
    ∃ γ', Fr (fun j => j = nx) γ γ' w (w.drew.alloc (.cells (us.toArray ++ rest) el)) ∧ (∀ a' : Act, a'.defers = a.defers → G ro γ' a' (w.drew.alloc (.cells (us.toArray ++ rest) el))) ∧
      DV γ' (w.drew.alloc (.cells (us.toArray ++ rest) el)) (.sl nx 0 k 0 z) (.slice (some ⟨w.heap.size, 0, none⟩) k cap) ∧
      (∀ id c, V.so id → (T.set nx (.cells false (ds.map fun d => .o d 0) 1) ob).get id = some c → HoldsO P γ' (w.drew.alloc (.cells (us.toArray ++ rest) el)) id c) ∧ (∀ id, V.so id → nx.succ.nat ≤ id.nat → γ'.cur id = 0) := by
  obtain ⟨F, g'⟩ := grow_new g nx 0 (.cells (us.toArray ++ rest) el) (fun vs e fr h => by cases h; rfl)
  have hb := γ.push_β nx (w.heap.size, 0)
  rw [h0] at hb
  have hcur : (γ.push nx (w.heap.size, 0)).cur nx = 1 := by rw [γ.push_cur, h0]
  have hh : (w.drew.alloc (.cells (us.toArray ++ rest) el)).heap[w.heap.size]? = some (.cells (us.toArray ++ rest) el) := heap_alloc_self w.drew _
  refine ⟨_, F, g', ?_, others_hold R g F fun _ => ?_, fun id hid hle => ?_⟩
  · unfold DV
    rw [hb, hcur]
    refine ⟨Nat.one_pos, Nat.le_refl _, cap, el, _, rfl, hcap, shape_cells hh, ?_⟩
    simp only [Array.size_append, List.size_toArray, hk, hrest, Nat.sub_zero, Nat.zero_add]
    rw [← Nat.add_mul]
    exact Nat.mul_le_mul_right _ (by omega)
  · refine ⟨Nat.one_pos, hcur, fun st hst => ?_⟩
    obtain rfl : st = 0 := by omega
    rw [hb]
    refine ⟨_, el, (0, 0), hh, fun _ => rfl, fun p c hp _ _ => ?_⟩
    rw [List.getElem?_map] at hp
    cases hd : ds[p]? with
    | none => rw [hd] at hp; cases hp
    | some d =>
      rw [hd] at hp
      cases hp
      obtain ⟨h2, h3⟩ := DVL_iff.1 hds
      have hlt : p < us.length := by have := (List.getElem?_eq_some_iff.1 hd).1; omega
      refine ⟨us[p], ?_, DV.mono F.up _ _ (h3 p d _ hd (List.getElem?_eq_getElem hlt)), h1 _ (List.getElem_mem _)⟩
      rw [Nat.sub_zero, Array.getElem?_append_left (by simpa using hlt)]
      simp [hlt]
  · rw [Pos.succ_nat] at hle
    have hne : id ≠ nx := by rintro rfl; omega
    rw [γ.push_cur_ne _ hne]
    exact R.nx id hid (by show nx.nat ≤ id.nat; omega)

theorem zeroCells_size (z : Array Value) (n : Nat) : (Builtin.zeroCells z n).size = n * z.size := by simp [Builtin.zeroCells]
theorem append_room {id : Pos} {cs : List Cell} {cur st n : Nat} {ds : List D} {us : List Value} (g : G ro γ a w) (H : HoldsO P γ w id (.cells false cs cur)) (hst : st < γ.cur id) (hd : (γ.β id st).2 ≤ n) (hn : n ≤ cs.length) (hop : OpenTo st (cs.take n))
    (hds : DVL γ w ds us) (h1 : ∀ u ∈ us, u.oneCell' = true) {e : TypeId} {sz : Nat} (hsh : w.shape? (γ.β id st).1 = some (e, sz)) (hroom : n - (γ.β id st).2 + us.length ≤ sz) :
    ∃ γ', γ' = γ.push id (γ.β id st) ∧ Fr (fun j => j = id) γ γ' w (w.setCells (γ.β id st).1 (n - (γ.β id st).2) us) ∧ (∀ a' : Act, a'.defers = a.defers → G ro γ' a' (w.setCells (γ.β id st).1 (n - (γ.β id st).2) us)) ∧
      HoldsO P γ' (w.setCells (γ.β id st).1 (n - (γ.β id st).2) us) id (.cells false (cs.take n ++ (ds.map (fun d => .o d cur) ++ (cs.drop (n + ds.length)).map (shutC (cur - 1)))) (cur + 1)) ∧
      (∀ j, j < us.length → (w.cell? ⟨(γ.β id st).1, n - (γ.β id st).2 + j, none⟩).isSome = true) ∧ (∀ j, j < us.length → w.frozen? ⟨(γ.β id st).1, n - (γ.β id st).2 + j, none⟩ = false) := by
  obtain ⟨h2, h3, h4⟩ := H
  obtain ⟨vs, e', fr, h5, h6, h7⟩ := h4 st (by omega)
  obtain rfl := h6 rfl
  have hsz : vs.size = sz := by
    rw [shape_cells h5] at hsh
    cases hsh; rfl
  subst hsz
  have hlen : us.length = ds.length := (DVL_iff.1 hds).1.symm
  have key := push_all (w' := w.setCells (γ.β id st).1 (n - (γ.β id st).2) us) (b := (γ.β id st).1) (δ := (γ.β id st).2) g id (by rw [size_setCells]; exact Nat.le_refl _) (.inr ⟨st, hst, rfl⟩)
    (fun c hc hn => heap_setCells_ne us w _ _ (fun e => hn st hst e.symm)) (shape_setCells h5 hroom) (loop_setCells h5) (os_setCells us w _ _) (fun x => World.frozen?_setCells _ _ _ _ x)
  obtain ⟨F, g'⟩ := key
  refine ⟨_, rfl, F, g', ⟨by omega, by rw [γ.push_cur, h3], fun s hs => ?_⟩, fun j hj => ?_, fun j hj => ?_⟩
  · have hat : ∀ p : Nat, (cs.take n ++ (ds.map (fun d => Cell.o d cur) ++ (cs.drop (n + ds.length)).map (shutC (cur - 1))))[p]? = if p < n then cs[p]? else if p < n + ds.length then (ds[p - n]?).map (fun d => Cell.o d cur) else (cs[p]?).map (shutC (cur - 1)) := by
      intro p
      by_cases hp : p < n
      · rw [if_pos hp, List.getElem?_append_left (by simp; omega), List.getElem?_take_of_lt hp]
      · rw [if_neg hp, List.getElem?_append_right (by simp; omega)]
        have hl : (cs.take n).length = n := by simp; omega
        rw [hl]
        by_cases hp2 : p < n + ds.length
        · rw [if_pos hp2, List.getElem?_append_left (by simp; omega), List.getElem?_map]
        · rw [if_neg hp2, List.getElem?_append_right (by simp; omega), List.getElem?_map, List.getElem?_drop]
          congr 2; simp; omega
    have hself := heap_setCells_self us h5 hroom
    have hsp : ∀ i : Nat, (splice vs.toList (n - (γ.β id st).2) us).toArray[i]? = (splice vs.toList (n - (γ.β id st).2) us)[i]? := by intro i; simp
    -- an old claim, in the block that was written
    have old : ∀ s0, s0 < γ.cur id → (γ.β id s0).1 = (γ.β id st).1 → ∀ (p : Nat) c, cs[p]? = some c → c.has s0 = true → (γ.β id st).2 ≤ p → (p < n ∨ n + ds.length ≤ p) → ∃ u, (splice vs.toList (n - (γ.β id st).2) us)[p - (γ.β id st).2]? = some u ∧ DV (γ.push id (γ.β id st)) (w.setCells (γ.β id st).1 (n - (γ.β id st).2) us) c.d u ∧ u.oneCell' = true := by
      intro s0 hs0 hb p c hp hh hdp hpos
      obtain ⟨vs2, e2, fr2, k1, k2, k3⟩ := h4 s0 (by omega)
      have hδ : (γ.β id s0).2 = (γ.β id st).2 := (g.inj id s0 id st hs0 hst hb).2
      rw [hb, h5] at k1
      cases k1
      rw [hδ] at k3
      obtain ⟨u, q1, q2, q3⟩ := k3 p c hp hh hdp
      refine ⟨u, ?_, DV.mono F.up _ _ q2, q3⟩
      rw [splice_at (by simpa using hroom)]
      rcases hpos with hpos | hpos
      · rw [if_pos (by omega)]; simpa using q1
      · rw [if_neg (by omega), if_neg (by omega)]; simpa using q1
    rcases Nat.lt_succ_iff_lt_or_eq.1 hs with hs | hs
    · have hs' : s < γ.cur id := by omega
      rw [γ.push_β_old id _ hs']
      by_cases hb : (γ.β id s).1 = (γ.β id st).1
      · have hδ : (γ.β id s).2 = (γ.β id st).2 := (g.inj id s id st hs' hst hb).2
        refine ⟨_, e', (0, 0), by rw [hb]; exact hself, fun _ => rfl, fun p c hp hh hdp => ?_⟩
        rw [hat] at hp
        rw [hδ] at hdp ⊢
        rw [hsp]
        by_cases hp1 : p < n
        · rw [if_pos hp1] at hp
          exact old s hs' hb p c hp hh hdp (.inl hp1)
        · rw [if_neg hp1] at hp
          by_cases hp2 : p < n + ds.length
          · rw [if_pos hp2] at hp
            cases hd2 : ds[p - n]? with
            | none => rw [hd2] at hp; cases hp
            | some d =>
              rw [hd2] at hp
              cases hp
              have := Nat.le_of_ble_eq_true hh
              omega
          · rw [if_neg hp2] at hp
            cases hc : cs[p]? with
            | none => rw [hc] at hp; cases hp
            | some c0 =>
              rw [hc] at hp
              cases hp
              rw [shutC_d]
              exact old s hs' hb p c0 hc (shutC_has hh).1 hdp (.inr (by omega))
      · obtain ⟨vs2, e2, fr2, k1, k2, k3⟩ := h4 s hs
        refine ⟨vs2, e2, fr2, by rw [heap_setCells_ne us w _ _ hb]; exact k1, k2, fun p c hp hh hdp => ?_⟩
        rw [hat] at hp
        by_cases hp1 : p < n
        · rw [if_pos hp1] at hp
          obtain ⟨u, q1, q2, q3⟩ := k3 p c hp hh hdp
          exact ⟨u, q1, DV.mono F.up _ _ q2, q3⟩
        · rw [if_neg hp1] at hp
          by_cases hp2 : p < n + ds.length
          · rw [if_pos hp2] at hp
            cases hd2 : ds[p - n]? with
            | none => rw [hd2] at hp; cases hp
            | some d =>
              rw [hd2] at hp
              cases hp
              have := Nat.le_of_ble_eq_true hh
              omega
          · rw [if_neg hp2] at hp
            cases hc : cs[p]? with
            | none => rw [hc] at hp; cases hp
            | some c0 =>
              rw [hc] at hp
              cases hp
              rw [shutC_d]
              obtain ⟨u, q1, q2, q3⟩ := k3 p c0 hc (shutC_has hh).1 hdp
              exact ⟨u, q1, DV.mono F.up _ _ q2, q3⟩
    · obtain rfl : s = γ.cur id := by omega
      rw [γ.push_β]
      refine ⟨_, e', (0, 0), hself, fun _ => rfl, fun p c hp hh hdp => ?_⟩
      rw [hat] at hp
      rw [hsp]
      by_cases hp1 : p < n
      · rw [if_pos hp1] at hp
        obtain ⟨d, lo, rfl, hlo⟩ := hop c (by
          rw [List.mem_iff_getElem?]
          exact ⟨p, by rw [List.getElem?_take_of_lt hp1]; exact hp⟩)
        exact old st hst rfl p _ hp (Nat.ble_eq_true_of_le hlo) hdp (.inl hp1)
      · rw [if_neg hp1] at hp
        by_cases hp2 : p < n + ds.length
        · rw [if_pos hp2] at hp
          cases hd2 : ds[p - n]? with
          | none => rw [hd2] at hp; cases hp
          | some d =>
            rw [hd2] at hp
            cases hp
            have hlt : p - n < us.length := by have := (List.getElem?_eq_some_iff.1 hd2).1; omega
            refine ⟨us[p - n], ?_, DV.mono F.up _ _ ((DVL_iff.1 hds).2 _ d _ hd2 (List.getElem?_eq_getElem hlt)), h1 _ (List.getElem_mem _)⟩
            rw [splice_at (by simpa using hroom), if_neg (by omega), if_pos (by omega), show p - (γ.β id st).2 - (n - (γ.β id st).2) = p - n by omega]
            exact List.getElem?_eq_getElem hlt
        · rw [if_neg hp2] at hp
          cases hc : cs[p]? with
          | none => rw [hc] at hp; cases hp
          | some c0 =>
            rw [hc] at hp
            cases hp
            have := (shutC_has hh).2
            omega
  · have : n - (γ.β id st).2 + j < vs.size := by omega
    simp [World.cell?, h5, this]
  · simp [World.frozen?, h5]
end
end Go.Ev

namespace Go.Ev
open Go.RowKit (Below)

section
variable {P : Program} {V : Sel} {γ : Gh} {a : Act} {w : World} {sl : T D} {ob : T C} {nx : Pos} {lg : Option (T Bool)} {nt : Nat} {o : Oper} {ro : Option Nat}

theorem append_grow {id : Pos} {cs : List Cell} {cur st off n m : Nat} {ds : List D} {us : List Value} (g : G ro γ a w) (H : HoldsO P γ w id (.cells false cs cur)) (hst : st < γ.cur id) (hd : (γ.β id st).2 ≤ off) (hoff : n = off + m) (hn : n ≤ cs.length) (hop : OpenTo st (cs.take n))
    (hds : DVL γ w ds us) (h1 : ∀ u ∈ us, u.oneCell' = true) :
    ∃ olds : List Value, olds.length = m ∧ w.rangeAt (γ.β id st).1 (off - (γ.β id st).2) olds ∧ ∀ (el : TypeId) (rest : Array Value),
      ∃ γ', γ' = γ.push id (w.heap.size, off) ∧ Fr (fun j => j = id) γ γ' w (w.drew.alloc (.cells ((olds ++ us).toArray ++ rest) el)) ∧ (∀ a' : Act, a'.defers = a.defers → G ro γ' a' (w.drew.alloc (.cells ((olds ++ us).toArray ++ rest) el))) ∧
        HoldsO P γ' (w.drew.alloc (.cells ((olds ++ us).toArray ++ rest) el)) id (.cells false (cs.take n ++ (ds.map (fun d => .o d cur) ++ (cs.drop (n + ds.length)).map (shutC (cur - 1)))) (cur + 1)) := by
  subst hoff
  have opn : ∀ p c, p < off + m → cs[p]? = some c → c.has st = true ∧ ∃ d lo, c = .o d lo := by
    intro p c hp hc
    obtain ⟨d, lo, rfl, hlo⟩ := hop c (by
      rw [List.mem_iff_getElem?]
      exact ⟨p, by rw [List.getElem?_take_of_lt hp]; exact hc⟩)
    exact ⟨Nat.ble_eq_true_of_le hlo, d, lo, rfl⟩
  obtain ⟨olds, k1, k2, k3, k4⟩ := cells_at (ds := ((cs.drop off).take m).map Cell.d) H hst hd (n := m) (by simp; omega) (fun i d hi => by
    rw [List.getElem?_map] at hi
    cases hc : ((cs.drop off).take m)[i]? with
    | none => rw [hc] at hi; cases hi
    | some c =>
      rw [hc] at hi
      cases hi
      have him : i < m := by have := (List.getElem?_eq_some_iff.1 hc).1; simp at this; omega
      rw [List.getElem?_take_of_lt him] at hc
      have hc' := hc
      rw [List.getElem?_drop] at hc'
      exact ⟨c, hc, (opn (off + i) c (by omega) hc').1, rfl⟩)
  refine ⟨olds, k1, k2, fun el rest => ?_⟩
  obtain ⟨h2, h3, h4⟩ := H
  have hlen : us.length = ds.length := (DVL_iff.1 hds).1.symm
  obtain ⟨F, g'⟩ := grow_new g id off (.cells ((olds ++ us).toArray ++ rest) el) (fun vs e fr h => by cases h; rfl)
  refine ⟨_, rfl, F, g', by omega, by rw [γ.push_cur, h3], fun s hs => ?_⟩
  have hat : ∀ p : Nat, (cs.take (off + m) ++ (ds.map (fun d => Cell.o d cur) ++ (cs.drop (off + m + ds.length)).map (shutC (cur - 1))))[p]? = if p < off + m then cs[p]? else if p < off + m + ds.length then (ds[p - (off + m)]?).map (fun d => Cell.o d cur) else (cs[p]?).map (shutC (cur - 1)) := by
    intro p
    by_cases hp : p < off + m
    · rw [if_pos hp, List.getElem?_append_left (by simp; omega), List.getElem?_take_of_lt hp]
    · rw [if_neg hp, List.getElem?_append_right (by simp; omega)]
      have hl : (cs.take (off + m)).length = off + m := by simp; omega
      rw [hl]
      by_cases hp2 : p < off + m + ds.length
      · rw [if_pos hp2, List.getElem?_append_left (by simp; omega), List.getElem?_map]
      · rw [if_neg hp2, List.getElem?_append_right (by simp; omega), List.getElem?_map, List.getElem?_drop]
        congr 2; simp; omega
  rcases Nat.lt_succ_iff_lt_or_eq.1 hs with hs | hs
  · have hs' : s < γ.cur id := by omega
    rw [γ.push_β_old id _ hs']
    obtain ⟨vs2, e2, fr2, q1, q2, q3⟩ := h4 s hs
    refine ⟨vs2, e2, fr2, ?_, q2, fun p c hp hh hdp => ?_⟩
    · rw [heap_alloc_lt w.drew _ (g.ob id s hs')]; exact q1
    · rw [hat] at hp
      by_cases hp1 : p < off + m
      · rw [if_pos hp1] at hp
        obtain ⟨u, r1, r2, r3⟩ := q3 p c hp hh hdp
        exact ⟨u, r1, DV.mono F.up _ _ r2, r3⟩
      · rw [if_neg hp1] at hp
        by_cases hp2 : p < off + m + ds.length
        · rw [if_pos hp2] at hp
          cases hd2 : ds[p - (off + m)]? with
          | none => rw [hd2] at hp; cases hp
          | some d =>
            rw [hd2] at hp
            cases hp
            have := Nat.le_of_ble_eq_true hh
            omega
        · rw [if_neg hp2] at hp
          cases hc : cs[p]? with
          | none => rw [hc] at hp; cases hp
          | some c0 =>
            rw [hc] at hp
            cases hp
            rw [shutC_d]
            obtain ⟨u, r1, r2, r3⟩ := q3 p c0 hc (shutC_has hh).1 hdp
            exact ⟨u, r1, DV.mono F.up _ _ r2, r3⟩
  · obtain rfl : s = γ.cur id := by omega
    rw [γ.push_β]
    refine ⟨_, el, (0, 0), heap_alloc_self w.drew _, fun _ => rfl, fun p c hp hh hdp => ?_⟩
    simp only at hdp
    rw [hat] at hp
    by_cases hp1 : p < off + m
    · rw [if_pos hp1] at hp
      have hlt : p - off < olds.length := by omega
      have hcd : (((cs.drop off).take m).map Cell.d)[p - off]? = some c.d := by
        rw [List.getElem?_map, List.getElem?_take_of_lt (by omega), List.getElem?_drop, show off + (p - off) = p by omega, hp]; rfl
      refine ⟨olds[p - off], ?_, DV.mono F.up _ _ ((DVL_iff.1 k3).2 _ _ _ hcd (List.getElem?_eq_getElem hlt)), k4 _ (List.getElem_mem _)⟩
      simp only
      rw [Array.getElem?_append_left (by simp; omega)]
      simp only [List.getElem?_toArray]
      rw [List.getElem?_append_left hlt]
      exact List.getElem?_eq_getElem hlt
    · rw [if_neg hp1] at hp
      by_cases hp2 : p < off + m + ds.length
      · rw [if_pos hp2] at hp
        cases hd2 : ds[p - (off + m)]? with
        | none => rw [hd2] at hp; cases hp
        | some d =>
          rw [hd2] at hp
          cases hp
          have hlt : p - (off + m) < us.length := by have := (List.getElem?_eq_some_iff.1 hd2).1; omega
          refine ⟨us[p - (off + m)], ?_, DV.mono F.up _ _ ((DVL_iff.1 hds).2 _ d _ hd2 (List.getElem?_eq_getElem hlt)), h1 _ (List.getElem_mem _)⟩
          simp only
          rw [Array.getElem?_append_left (by simp; omega)]
          simp only [List.getElem?_toArray]
          rw [List.getElem?_append_right (by omega), k1, show p - off - m = p - (off + m) by omega]
          exact List.getElem?_eq_getElem hlt
      · rw [if_neg hp2] at hp
        cases hc : cs[p]? with
        | none => rw [hc] at hp; cases hp
        | some c0 =>
          rw [hc] at hp
          cases hp
          have := (shutC_has hh).2
          omega

theorem cap_ok {args : Array Operand} {tys : Array TypeId} {t el : TypeId} {x : Operand} {d : Pos} {r : RX} {Z : X} (ho : o.op = .call { callee := .builtin .cap, args := args, argTypes := tys }) (ha : args.toList = [x]) (ht : tys.toList = [t]) (hd : o.dst = some d.ix) (hlt : d.ix < nt) (hx : rx x = some r) (hu : P.underlying t = some (.slice el))
    (h : s_cap d r sl ob nx lg = some Z) : OpOk P nt o r.ss ⟨sl, ob, nx, lg⟩ Z := by
  have hargs : args = #[x] := by rw [← Array.toArray_toList (xs := args), ha]
  have htys : tys = #[t] := by rw [← Array.toArray_toList (xs := tys), ht]
  subst hargs
  subst htys
  unfold s_cap at h
  split at h <;> first | (cases h; done) | skip
  rename_i hv
  rw [outK_eq h]
  refine OpOk.pure hd hlt (LgLe.refl _) fun V hs _ γ a w R => ⟨_, ?_, DV_of_i _ _⟩
  have := opd_ok hx hv R hs
  unfold DV at this
  simp [execOp, ho, resolve, invoke, builtin, this, Builtin.cap_, goInt, run_underlying hu]
theorem run_append_zeros (w : World) (t tx ty e : TypeId) (k : IntKind) (i : TypeInfo) (z : Value) (ht : P.underlying t = some (.slice e)) (hk : P.underlying tx = some (.int k)) (hi : P.info? e = some i) (hz : i.zero = some z) (n : Nat) (h1 : 0 < n) (hn : n ≤ 65536) (hb : i.bytes ≤ 65536) (hs : z.cells.size = i.size) :
    (Builtin.append_ #[t, tx] ty #[.slice none 0 0, .int .i64 (n : Int)]).run P w =
      .ok (.slice (some ⟨w.heap.size, 0, none⟩) n (grownCap w n 0 e)) (w.drew.alloc (.cells (Builtin.zeroCells z.cells n ++ Builtin.zeroCells z.cells (grownCap w n 0 e - n)) e)) := by
  have w1 : IntKind.i64.wrap (n : Int) = (n : Int) := IntWalk.i64_in _ (by omega)
  have hneg : ¬ ((n : Int) < 0) := by omega
  have hle : n * i.bytes ≤ 65536 * 65536 := Nat.mul_le_mul hn hb
  have hby : ¬ ((281474976710656 : Int) < (n : Int) * (i.bytes : Int)) := by
    have : ((n * i.bytes : Nat) : Int) = (n : Int) * (i.bytes : Int) := by simp
    omega
  have hne : ¬ (n ≤ 0) := by omega
  have h0 : ¬ (n = 0) := by omega
  have h63 : ¬ ((9223372036854775807 : Int) < (n : Int)) := by omega
  have h48 : ¬ (281474976710656 < Builtin.nextslicecap n 0 * i.bytes) := by
    have := growslice_fits (need := n) (old := 0) (bytes := i.bytes) (by omega) (by omega)
    omega
  by_cases hzero : n * i.size = 0
  · have hzz : Builtin.zeroCells z.cells n = #[] := by
      apply Array.eq_empty_of_size_eq_zero
      rw [zeroCells_size, hs, hzero]
    have h00 : i.size = 0 := by rcases Nat.mul_eq_zero.1 hzero with h | h <;> omega
    simp [Builtin.append_, run_underlying ht, run_underlying hk, sizeOf, typeInfo, zeroValue, hi, hz, asInt, asIntOf, w1, hneg, hby, hne, h0, h63, h48, Question.forced, Builtin.firstCells, newRow, grownCap, hzz, h00]
  · have hs0 : ¬ (i.size = 0) := fun e => hzero (by rw [e]; simp)
    simp [Builtin.append_, run_underlying ht, run_underlying hk, sizeOf, typeInfo, zeroValue, hi, hz, asInt, asIntOf, w1, hneg, hby, hne, h0, h63, h48, Question.forced, Builtin.firstCells, newRow, grownCap, hs0]
    exact fun e => absurd e hzero
theorem apn_ok {args : Array Operand} {tys : Array TypeId} {t tx el : TypeId} {k : IntKind} {x y : Operand} {i : TypeInfo} {z : Nat} {zs : List D} {d : Pos} {r1 r2 : RX} {Z : X} (ho : o.op = .call { callee := .builtin .append, args := args, argTypes := tys }) (ha : args.toList = [x, y]) (hty : tys.toList = [t, tx]) (hd : o.dst = some d.ix) (hlt : d.ix < nt)
    (hx : rx x = some r1) (hy : rx y = some r2) (hu : P.underlying t = some (.slice el)) (hs : szOf P el = some z) (hux : P.underlying tx = some (.int k)) (hz : zeroD P el = some zs) (hi : P.info? el = some i) (hzl : zs.length = z) (hby : i.bytes ≤ 65536)
    (h : s_apn d z zs r1 r2 sl ob nx lg = some Z) : OpOk P nt o (r1.ss ++ r2.ss) ⟨sl, ob, nx, lg⟩ Z := by
  have hargs : args = #[x, y] := by rw [← Array.toArray_toList (xs := args), ha]
  have htys : tys = #[t, tx] := by rw [← Array.toArray_toList (xs := tys), hty]
  subst htys
  have hsz : i.size = z := by
    unfold szOf at hs
    rw [hi] at hs
    cases hs; rfl
  obtain ⟨zv, hzv, hcd⟩ : ∃ zv, i.zero = some zv ∧ constDs zv.cells.toList = some zs := by
    unfold zeroD at hz
    rw [hi] at hz
    simp only at hz
    split at hz
    · rename_i zv hzv
      exact ⟨zv, hzv, hz⟩
    · cases hz
  have z2 : ∀ γ w, DVL γ w zs zv.cells.toList := fun γ w => (constDs_ok hcd).1
  have z3 : ∀ u ∈ zv.cells.toList, u.oneCell' = true := (constDs_ok (γ := ⟨fun _ => 0, fun _ _ => (0, 0), fun _ => False⟩) (w := default) hcd).2
  have zsz : zv.cells.size = z := by
    have := (DVL_iff.1 (z2 ⟨fun _ => 0, fun _ _ => (0, 0), fun _ => False⟩ default)).1
    rw [hzl] at this
    simpa using this.symm
  unfold s_apn at h
  split at h
  · rename_i m hvx hvy
    cases hb : (Nat.blt 0 m && Nat.ble m 65536) with
    | false => rw [hb] at h; cases h
    | true =>
      rw [hb] at h
      simp only [cond_true] at h
      rw [repK_eq] at h
      rw [Bool.and_eq_true] at hb
      have e1 : 0 < m := Nat.le_of_ble_eq_true hb.1
      have e2 := Nat.le_of_ble_eq_true hb.2
      obtain ⟨lg2, rfl, h7, h8⟩ := freshK_eq h
      refine OpOk.value hd hlt h7 (by rw [Pos.succ_nat]; omega) ((Keeps.refl _ _).set h8 _) fun V hss hto ro γ a w g R => ?_
      have hv1 := opd_ok hx hvx R fun s h => hss s (by simp [h])
      unfold DV at hv1
      have hv2 := DV_i (opd_ok hy hvy R fun s h => hss s (by simp [h]))
      have hso : V.so nx := hto nx h8.tchd
      have hinit : DVL γ w (reps zs m) (Builtin.zeroCells zv.cells m).toList ∧ ∀ u ∈ (Builtin.zeroCells zv.cells m).toList, u.oneCell' = true := by
        unfold Builtin.zeroCells
        exact zeros_ok (z2 γ w) z3 (by rw [hzl, zsz])
      have hge := grownCap_ge w m 0 el
      obtain ⟨γ', F, g', hv, hoth, hnx⟩ := fresh_rows (P := P) (ds := reps zs m) (us := (Builtin.zeroCells zv.cells m).toList) (el := el) (k := m) (cap := grownCap w m 0 el) (z := z) g R hso (R.nx nx hso (Nat.le_refl _)) hinit.1 hinit.2 (by simp [zeroCells_size, zsz]) hge (rest := Builtin.zeroCells zv.cells (grownCap w m 0 el - m)) (by rw [zeroCells_size, zsz])
      have hr := run_append_zeros (P := P) w t tx o.type el k i zv hu hux hi hzv m e1 e2 hby (by rw [zsz, hsz])
      refine ⟨_, _, γ', run_append ho hargs (by rw [hv1, hv2]; exact hr), F.mono (fun j e => by rw [e]; exact h8), ?_, ?_, ?_, hnx⟩
      · simpa using g'
      · simpa using hv
      · simpa using hoth
  · cases h
theorem app_ok {args : Array Operand} {tys : Array TypeId} {t tx el e' : TypeId} {x y : Operand} {i : TypeInfo} {z : Nat} {zs : List D} {d : Pos} {r1 r2 : RX} {Z : X} (ho : o.op = .call { callee := .builtin .append, args := args, argTypes := tys }) (ha : args.toList = [x, y]) (hty : tys.toList = [t, tx]) (hd : o.dst = some d.ix) (hlt : d.ix < nt)
    (hx : rx x = some r1) (hy : rx y = some r2) (hu : P.underlying t = some (.slice el)) (hs : szOf P el = some z) (hux : P.underlying tx = some (.slice e')) (hz : zeroD P el = some zs) (hi : P.info? el = some i) (hzl : zs.length = z) (hby : i.bytes ≤ 65536)
    (h : s_app d z r1 r2 sl ob nx lg = some Z) : OpOk P nt o (r1.ss ++ r2.ss) ⟨sl, ob, nx, lg⟩ Z := by
  have hargs : args = #[x, y] := by rw [← Array.toArray_toList (xs := args), ha]
  have htys : tys = #[t, tx] := by rw [← Array.toArray_toList (xs := tys), hty]
  subst htys
  have hsz : i.size = z := by
    unfold szOf at hs
    rw [hi] at hs
    cases hs; rfl
  obtain ⟨zv, hzv, zsz⟩ : ∃ zv, i.zero = some zv ∧ zv.cells.size = z := by
    unfold zeroD at hz
    rw [hi] at hz
    simp only at hz
    split at hz
    · rename_i zv hzv
      refine ⟨zv, hzv, ?_⟩
      have := (DVL_iff.1 (constDs_ok (γ := ⟨fun _ => 0, fun _ _ => (0, 0), fun _ => False⟩) (w := default) hz).1).1
      rw [hzl] at this
      simpa using this.symm
    · cases hz
  unfold s_app at h
  split at h
  · rename_i dx dy hvx hvy
    obtain ⟨idy, n, ds, h1, h2, h3⟩ := srcK_ok (P := P) (sl := sl) (nx := nx) (lg := lg) h
    obtain ⟨lg1, h4, h5, h6⟩ := logO_ok h1
    cases n with
    | zero =>
      simp only [Nat.zero_mul, List.length_eq_zero_iff] at h2
      subst h2
      -- nothing is appended: the slice as it is
      have keep : ∀ {V : Sel} {γ : Gh} {a : Act} {w : World}, Rep P V γ a w ⟨sl, ob, nx, lg⟩ → (∀ s, s ∈ r1.ss ++ r2.ss → V.ss s) → (∀ j, idy = some j → V.so j) → ∀ (ad : Option Addr) (len cap : Nat), a.eval x = .slice ad len cap → len ≤ cap → (ad = none → len = 0) →
          (∀ b off, ad = some ⟨b, off, none⟩ → True) → (execOp a.eval o).run P w = .ok (.value (.slice ad len cap)) w := by
        intro V γ a w R hss hj ad len cap e hle _ _
        obtain ⟨us, q1, q2, q3, q4⟩ := h3 R hj (opd_ok hy hvy R fun s h => hss s (by simp [h])) hux
        have hus : us = [] := by
          have := (DVL_iff.1 q2).1
          exact List.length_eq_zero_iff.1 this.symm
        subst hus
        refine run_append ho hargs ?_
        rw [e]
        have hc := q1.cells
        have hl := q1.len
        cases ad with
        | none => simp [Builtin.append_, run_underlying hu, run_underlying hux, sizeOf, typeInfo, hi, hsz, hl, hc, hle]
        | some ad => simp [Builtin.append_, run_underlying hu, run_underlying hux, sizeOf, typeInfo, hi, hsz, hl, hc, hle, storeCells]
      simp only at h4
      split at h4 <;> first | (cases h4; done) | skip
      · rw [outK_eq h4]
        refine OpOk.pure hd hlt h5 fun V hss hto γ a w R => ?_
        have hv := opd_ok hx hvx R fun s h => hss s (by simp [h])
        unfold DV at hv
        exact ⟨_, keep R hss (fun j e => hto j (h6 j e)) none 0 0 hv (Nat.le_refl _) (fun _ => rfl) (fun _ _ _ => trivial), by unfold DV; rfl⟩
      · rw [outK_eq h4]
        refine OpOk.pure hd hlt h5 fun V hss hto γ a w R => ?_
        have hv := opd_ok hx hvx R fun s h => hss s (by simp [h])
        unfold DV at hv
        obtain ⟨ad, hv⟩ := hv
        exact ⟨_, keep R hss (fun j e => hto j (h6 j e)) _ 0 0 hv (Nat.le_refl _) (fun _ => rfl) (fun _ _ _ => trivial), by unfold DV; exact ⟨ad, rfl⟩⟩
      · rename_i id off len st z'
        cases hb : Nat.beq z z' with
        | false => rw [hb] at h4; cases h4
        | true =>
          rw [hb] at h4
          simp only [cond_true] at h4
          split at h4
          · obtain ⟨lg2, h7, h8, _⟩ := logR_ok h4
            rw [outK_eq h7]
            refine OpOk.pure hd hlt (h5.trans h8) fun V hss hto γ a w R => ?_
            have hv := opd_ok hx hvx R fun s h => hss s (by simp [h])
            obtain ⟨_, _, cap, _, _, e, hle, _⟩ := DV_sl hv
            refine ⟨_, keep R hss (fun j e => hto j (h8.t j (h6 j e))) _ len cap e hle (fun e => by cases e) (fun _ _ _ => trivial), ?_⟩
            rw [← e]; exact hv
          · cases h4
    | succ k' =>
      -- onto nothing: a new block
      have fresh : ∀ {Z : X}, (bif Nat.ble (Nat.succ k') 2147483648 then openK ds fun cs => freshK sl ob nx lg1 (.cells false cs 1) d (.sl nx 0 (Nat.succ k') 0 z) else none) = some Z → (∀ {V : Sel} {γ : Gh} {a : Act} {w : World}, Rep P V γ a w ⟨sl, ob, nx, lg⟩ → (∀ s, s ∈ r1.ss ++ r2.ss → V.ss s) → ∃ ad, a.eval x = .slice ad 0 0) → OpOk P nt o (r1.ss ++ r2.ss) ⟨sl, ob, nx, lg⟩ Z := by
        intro Z h hbase
        cases hb : Nat.ble (Nat.succ k') 2147483648 with
        | false => rw [hb] at h; cases h
        | true =>
          rw [hb] at h
          simp only [cond_true] at h
          have hk := Nat.le_of_ble_eq_true hb
          rw [openK_eq] at h
          obtain ⟨lg2, rfl, h7, h8⟩ := freshK_eq h
          refine OpOk.value hd hlt (h5.trans h7) (by rw [Pos.succ_nat]; omega) ((Keeps.refl _ _).set h8 _) fun V hss hto ro γ a w g R => ?_
          obtain ⟨ad, e⟩ := hbase R hss
          obtain ⟨us, q1, q2, q3, q4⟩ := h3 R (fun j e => hto j (h7.t j (h6 j e))) (opd_ok hy hvy R fun s h => hss s (by simp [h])) hux
          have hul : us.length = (k' + 1) * z := by rw [← (DVL_iff.1 q2).1, h2]
          have hfc : (Builtin.firstCells i.size 0 (.slice ad 0 0)).run P w.drew = .ok ([] : List Value).toArray w.drew := by
            cases ad with
            | none => exact run_firstCells_none (P := P) w.drew i.size 0 0 0
            | some ad => exact run_firstCells_some (P := P) w.drew i.size 0 ad 0 0 [] (by simp) (fun j u hu => by simp at hu)
          have hprod : (k' + 1) * i.bytes ≤ 2147483648 * 65536 := Nat.mul_le_mul hk hby
          have hr := run_append_grow_src (P := P) w t tx o.type el i zv hu hi hzv ad 0 0 [] hfc (a.eval y) (k' + 1) us (by rw [hsz]; exact q1) (by omega) (by omega)
            (growslice_fits (by omega) (by rw [Nat.zero_add]; omega))
          simp only [List.nil_append, Nat.zero_add] at hr
          have hge := grownCap_ge w (k' + 1) 0 el
          have hso : V.so nx := hto nx h8.tchd
          obtain ⟨γ', F, g', hv, hoth, hnx⟩ := fresh_rows (P := P) (ds := ds) (us := us) (el := el) (k := k' + 1) (cap := grownCap w (k' + 1) 0 el) (z := z) g R hso (R.nx nx hso (Nat.le_refl _)) q2 q4 hul hge (rest := Builtin.zeroCells zv.cells (grownCap w (k' + 1) 0 el - (k' + 1))) (by rw [zeroCells_size, zsz])
          exact ⟨_, _, γ', run_append ho hargs (by rw [e]; exact hr), F.mono (fun j e => by rw [e]; exact h8), g', hv, hoth, hnx⟩
      simp only at h4
      split at h4 <;> first | (cases h4; done) | skip
      · exact fresh h4 fun {V γ a w} R hss => by
          have hv := opd_ok hx hvx R fun s h => hss s (by simp [h])
          unfold DV at hv
          exact ⟨none, hv⟩
      · exact fresh h4 fun {V γ a w} R hss => by
          have hv := opd_ok hx hvx R fun s h => hss s (by simp [h])
          unfold DV at hv
          obtain ⟨ad, hv⟩ := hv
          exact ⟨_, hv⟩
      · rename_i id off len st z'
        cases hb : (Nat.beq z z' && Nat.ble (Nat.add len (Nat.succ k')) 2147483648) with
        | false => rw [hb] at h4; cases h4
        | true =>
          rw [hb] at h4
          simp only [cond_true] at h4
          rw [Bool.and_eq_true] at hb
          obtain rfl := Nat.eq_of_beq_eq_true hb.1
          have hk : len + (k' + 1) ≤ 2147483648 := Nat.le_of_ble_eq_true hb.2
          split at h4
          · rename_i cs cur hob
            obtain ⟨g1, g2, g3⟩ := growK_ok h4
            simp only [natK_eq] at g3
            obtain ⟨lg2, rfl, h7, h8⟩ := objOutK_eq g3
            refine OpOk.value hd hlt (h5.trans h7) (Nat.le_refl _) ((Keeps.refl _ _).set h8 _) fun V hss hto ro γ a w g R => ?_
            have hso : V.so id := hto id h8.tchd
            have H := R.ob id _ hso hob
            have hv := opd_ok hx hvx R fun s h => hss s (by simp [h])
            obtain ⟨e1, e2, cap, e, n, e3, e4, e5, e6⟩ := DV_sl hv
            obtain ⟨us, q1, q2, q3, q4⟩ := h3 R (fun j e => hto j (h7.t j (h6 j e))) (opd_ok hy hvy R fun s h => hss s (by simp [h])) hux
            have hul : us.length = (k' + 1) * z := by rw [← (DVL_iff.1 q2).1, h2]
            have hcur : cur = γ.cur id := H.2.1.symm
            have hn' : Nat.add off (Nat.mul len z) = off + len * z := rfl
            rw [hn'] at g1 g2 g3
            have hprod : (len + (k' + 1)) * i.bytes ≤ 2147483648 * 65536 := Nat.mul_le_mul hk hby
            have hnxR : ∀ γ' : Gh, γ'.cur = (γ.push id (0, 0)).cur → ∀ j, V.so j → nx.nat ≤ j.nat → γ'.cur j = 0 := by
              intro γ' hc j hj hle
              have hne : j ≠ id := by
                rintro rfl
                have := R.nx j hj hle
                omega
              rw [hc, γ.push_cur_ne _ hne]
              exact R.nx j hj hle
            by_cases hroom : len + (k' + 1) ≤ cap
            · -- there is room
              have hmul : len * z + (k' + 1) * z ≤ cap * z := by rw [← Nat.add_mul]; exact Nat.mul_le_mul_right _ hroom
              obtain ⟨γ', rfl, F, g', H', hc1, hc2⟩ := append_room (n := off + len * z) g H e1 (by omega) g1 g2 q2 q4 e5 (by rw [hul]; omega)
              have hoo : off + len * z - (γ.β id st).2 = off - (γ.β id st).2 + len * z := by omega
              rw [hoo] at F g' H' hc1 hc2
              have hr := run_append_room_src (P := P) w t tx o.type el i hu hi (γ.β id st).1 (off - (γ.β id st).2) len cap (a.eval y) (k' + 1) us (by rw [hsz]; exact q1) hroom (by rw [hsz]; exact hc1) (by rw [hsz]; exact hc2)
              rw [hsz] at hr
              refine ⟨_, _, _, run_append ho hargs (by rw [e3]; exact hr), F.mono (fun j e => by rw [e]; exact h8), g', ?_, others_hold R g F fun _ => H', hnxR _ rfl⟩
              unfold DV
              rw [hcur, γ.push_β, γ.push_cur]
              exact ⟨Nat.lt_succ_self _, e2, cap, e, n, rfl, hroom, F.up.sh _ _ e5, e6⟩
            · -- a new block
              obtain ⟨olds, k1, k2, k3⟩ := append_grow (m := len * z) g H e1 e2 rfl g1 g2 q2 q4
              have hfc : (Builtin.firstCells i.size len (.slice (some ⟨(γ.β id st).1, off - (γ.β id st).2, none⟩) len cap)).run P w.drew = .ok olds.toArray w.drew :=
                run_firstCells_some (P := P) w.drew i.size len _ len cap olds (by rw [k1, hsz]) (fun j u hu => by
                  rw [Addr.add_mid]; exact k2 j u hu)
              have hr := run_append_grow_src (P := P) w t tx o.type el i zv hu hi hzv (some ⟨(γ.β id st).1, off - (γ.β id st).2, none⟩) len cap olds hfc (a.eval y) (k' + 1) us (by rw [hsz]; exact q1) (by omega) (by omega)
                (growslice_fits (by omega) (by omega))
              have hge := grownCap_ge w (len + (k' + 1)) cap el
              obtain ⟨γ', rfl, F, g', H'⟩ := k3 el (Builtin.zeroCells zv.cells (grownCap w (len + (k' + 1)) cap el - (len + (k' + 1))))
              refine ⟨_, _, _, run_append ho hargs (by rw [e3]; exact hr), F.mono (fun j e => by rw [e]; exact h8), g', ?_, others_hold R g F fun _ => H', hnxR _ rfl⟩
              unfold DV
              rw [hcur, γ.push_β, γ.push_cur]
              refine ⟨Nat.lt_succ_self _, Nat.le_refl _, grownCap w (len + (k' + 1)) cap el, el, _, ?_, hge, shape_cells (heap_alloc_self w.drew _), ?_⟩
              · show _ = Value.slice (some ⟨w.heap.size, off - off, none⟩) (len + (k' + 1)) _
                rw [Nat.sub_self]
              · simp only [Array.size_append, List.size_toArray, List.length_append, k1, hul, zeroCells_size, zsz, Nat.sub_self, Nat.zero_add]
                rw [← Nat.add_mul, ← Nat.add_mul]
                exact Nat.mul_le_mul_right _ (by omega)
          · cases h4
  · cases h
end
end Go.Ev
