import Derived.Test.YtjgbfnciedkafaaEvUK
set_option linter.all false
namespace Go.Ev
open Go.RowKit (Below)
section
variable {P : Program} {V : Sel} {γ : Gh} {a : Act} {w : World} {sl : T D} {ob : T C} {nx : Pos} {lg : Option (T Bool)} {nt : Nat} {o : Oper} {ro : Option Nat}
theorem append_grow {id : Pos} {cs : List Cell} {cur st off n m : Nat} {ds : List D} {us : List Value} (g : G ro γ a w) (H : HoldsO P γ w id (.cells false cs cur)) (hst : st < γ.cur id) (hd : (γ.β id st).2 ≤ off) (hoff : n = off + m) (hn : n ≤ cs.length) (hop : OpenTo st (cs.take n))
    (hds : DVL γ w ds us) (h1 : ∀ u ∈ us, u.oneCell' = true) :
    ∃ olds : List Value, olds.length = m ∧ w.rangeAt (γ.β id st).1 (off - (γ.β id st).2) olds ∧ ∀ (el : TypeId) (rest : Array Value),
      ∃ γ', γ' = γ.push id (w.heap.size, off) ∧ Fr (fun j => j = id) γ γ' w (w.drew.alloc (.cells ((olds ++ us).toArray ++ rest) el)) ∧ (∀ a' : Act, a'.defers = a.defers → G ro γ' a' (w.drew.alloc (.cells ((olds ++ us).toArray ++ rest) el))) ∧
        HoldsO P γ' (w.drew.alloc (.cells ((olds ++ us).toArray ++ rest) el)) id (.cells false (cs.take n ++ (ds.map (fun d => .o d cur) ++ (cs.drop (n + ds.length)).map (shutC (cur - 1)))) (cur + 1)) := by
  subst hoff
  have opn : ∀ p c, p < off + m → cs[p]? = some c → c.has st = true ∧ ∃ d lo, c = .o d lo := by
    intro p c hp hc
    obtain ⟨d, lo, rfl, hlo⟩ := hop c (by
      rw [List.mem_iff_getElem?]
      exact ⟨p, by rw [List.getElem?_take_of_lt hp]; exact hc⟩)
    exact ⟨Nat.ble_eq_true_of_le hlo, d, lo, rfl⟩
  obtain ⟨olds, k1, k2, k3, k4⟩ := cells_at (ds := ((cs.drop off).take m).map Cell.d) H hst hd (n := m) (by simp; omega) (fun i d hi => by
    rw [List.getElem?_map] at hi
    cases hc : ((cs.drop off).take m)[i]? with
    | none => rw [hc] at hi; cases hi
    | some c =>
      rw [hc] at hi
      cases hi
      have him : i < m := by have := (List.getElem?_eq_some_iff.1 hc).1; simp at this; omega
      rw [List.getElem?_take_of_lt him] at hc
      have hc' := hc
      rw [List.getElem?_drop] at hc'
      exact ⟨c, hc, (opn (off + i) c (by omega) hc').1, rfl⟩)
  refine ⟨olds, k1, k2, fun el rest => ?_⟩
  obtain ⟨h2, h3, h4⟩ := H
  have hlen : us.length = ds.length := (DVL_iff.1 hds).1.symm
  obtain ⟨F, g'⟩ := grow_new g id off (.cells ((olds ++ us).toArray ++ rest) el) (fun vs e fr h => by cases h; rfl)
  refine ⟨_, rfl, F, g', by omega, by rw [γ.push_cur, h3], fun s hs => ?_⟩
  have hat : ∀ p : Nat, (cs.take (off + m) ++ (ds.map (fun d => Cell.o d cur) ++ (cs.drop (off + m + ds.length)).map (shutC (cur - 1))))[p]? = if p < off + m then cs[p]? else if p < off + m + ds.length then (ds[p - (off + m)]?).map (fun d => Cell.o d cur) else (cs[p]?).map (shutC (cur - 1)) := by
    intro p
    by_cases hp : p < off + m
    · rw [if_pos hp, List.getElem?_append_left (by simp; omega), List.getElem?_take_of_lt hp]
    · rw [if_neg hp, List.getElem?_append_right (by simp; omega)]
      have hl : (cs.take (off + m)).length = off + m := by simp; omega
      rw [hl]
      by_cases hp2 : p < off + m + ds.length
      · rw [if_pos hp2, List.getElem?_append_left (by simp; omega), List.getElem?_map]
      · rw [if_neg hp2, List.getElem?_append_right (by simp; omega), List.getElem?_map, List.getElem?_drop]
        congr 2; simp; omega
  rcases Nat.lt_succ_iff_lt_or_eq.1 hs with hs | hs
  · have hs' : s < γ.cur id := by omega
    rw [γ.push_β_old id _ hs']
    obtain ⟨vs2, e2, fr2, q1, q2, q3⟩ := h4 s hs
    refine ⟨vs2, e2, fr2, ?_, q2, fun p c hp hh hdp => ?_⟩
    · rw [heap_alloc_lt w.drew _ (g.ob id s hs')]; exact q1
    · rw [hat] at hp
      by_cases hp1 : p < off + m
      · rw [if_pos hp1] at hp
        obtain ⟨u, r1, r2, r3⟩ := q3 p c hp hh hdp
        exact ⟨u, r1, DV.mono F.up _ _ r2, r3⟩
      · rw [if_neg hp1] at hp
        by_cases hp2 : p < off + m + ds.length
        · rw [if_pos hp2] at hp
          cases hd2 : ds[p - (off + m)]? with
          | none => rw [hd2] at hp; cases hp
          | some d =>
            rw [hd2] at hp
            cases hp
            have := Nat.le_of_ble_eq_true hh
            omega
        · rw [if_neg hp2] at hp
          cases hc : cs[p]? with
          | none => rw [hc] at hp; cases hp
          | some c0 =>
            rw [hc] at hp
            cases hp
            rw [shutC_d]
            obtain ⟨u, r1, r2, r3⟩ := q3 p c0 hc (shutC_has hh).1 hdp
            exact ⟨u, r1, DV.mono F.up _ _ r2, r3⟩
  · obtain rfl : s = γ.cur id := by omega
    rw [γ.push_β]
    refine ⟨_, el, (0, 0), heap_alloc_self w.drew _, fun _ => rfl, fun p c hp hh hdp => ?_⟩
    simp only at hdp
    rw [hat] at hp
    by_cases hp1 : p < off + m
    · rw [if_pos hp1] at hp
      have hlt : p - off < olds.length := by omega
      have hcd : (((cs.drop off).take m).map Cell.d)[p - off]? = some c.d := by
        rw [List.getElem?_map, List.getElem?_take_of_lt (by omega), List.getElem?_drop, show off + (p - off) = p by omega, hp]; rfl
      refine ⟨olds[p - off], ?_, DV.mono F.up _ _ ((DVL_iff.1 k3).2 _ _ _ hcd (List.getElem?_eq_getElem hlt)), k4 _ (List.getElem_mem _)⟩
      simp only
      rw [Array.getElem?_append_left (by simp; omega)]
      simp only [List.getElem?_toArray]
      rw [List.getElem?_append_left hlt]
      exact List.getElem?_eq_getElem hlt
    · rw [if_neg hp1] at hp
      by_cases hp2 : p < off + m + ds.length
      · rw [if_pos hp2] at hp
        cases hd2 : ds[p - (off + m)]? with
        | none => rw [hd2] at hp; cases hp
        | some d =>
          rw [hd2] at hp
          cases hp
          have hlt : p - (off + m) < us.length := by have := (List.getElem?_eq_some_iff.1 hd2).1; omega
          refine ⟨us[p - (off + m)], ?_, DV.mono F.up _ _ ((DVL_iff.1 hds).2 _ d _ hd2 (List.getElem?_eq_getElem hlt)), h1 _ (List.getElem_mem _)⟩
          simp only
          rw [Array.getElem?_append_left (by simp; omega)]
          simp only [List.getElem?_toArray]
          rw [List.getElem?_append_right (by omega), k1, show p - off - m = p - (off + m) by omega]
          exact List.getElem?_eq_getElem hlt
      · rw [if_neg hp2] at hp
        cases hc : cs[p]? with
        | none => rw [hc] at hp; cases hp
        | some c0 =>
          rw [hc] at hp
          cases hp
          have := (shutC_has hh).2
          omega
theorem cap_ok {args : Array Operand} {tys : Array TypeId} {t el : TypeId} {x : Operand} {d : Pos} {r : RX} {Z : X} (ho : o.op = .call { callee := .builtin .cap, args := args, argTypes := tys }) (ha : args.toList = [x]) (ht : tys.toList = [t]) (hd : o.dst = some d.ix) (hlt : d.ix < nt) (hx : rx x = some r) (hu : P.underlying t = some (.slice el))
    (h : s_cap d r sl ob nx lg = some Z) : OpOk P nt o r.ss ⟨sl, ob, nx, lg⟩ Z := by
  have hargs : args = #[x] := by rw [← Array.toArray_toList (xs := args), ha]
  have htys : tys = #[t] := by rw [← Array.toArray_toList (xs := tys), ht]
  subst hargs
  subst htys
  unfold s_cap at h
  split at h <;> first | (cases h; done) | skip
  rename_i hv
  rw [outK_eq h]
  refine OpOk.pure hd hlt (LgLe.refl _) fun V hs _ γ a w R => ⟨_, ?_, DV_of_i _ _⟩
  have := opd_ok hx hv R hs
  unfold DV at this
  simp [execOp, ho, resolve, invoke, builtin, this, Builtin.cap_, goInt, run_underlying hu]
theorem run_append_zeros (w : World) (t tx ty e : TypeId) (k : IntKind) (i : TypeInfo) (z : Value) (ht : P.underlying t = some (.slice e)) (hk : P.underlying tx = some (.int k)) (hi : P.info? e = some i) (hz : i.zero = some z) (n : Nat) (h1 : 0 < n) (hn : n ≤ 65536) (hb : i.bytes ≤ 65536) (hs : z.cells.size = i.size) :
    (Builtin.append_ #[t, tx] ty #[.slice none 0 0, .int .i64 (n : Int)]).run P w =
      .ok (.slice (some ⟨w.heap.size, 0, none⟩) n (grownCap w n 0 e)) (w.drew.alloc (.cells (Builtin.zeroCells z.cells n ++ Builtin.zeroCells z.cells (grownCap w n 0 e - n)) e)) := by
  have w1 : IntKind.i64.wrap (n : Int) = (n : Int) := IntWalk.i64_in _ (by omega)
  have hneg : ¬ ((n : Int) < 0) := by omega
  have hle : n * i.bytes ≤ 65536 * 65536 := Nat.mul_le_mul hn hb
  have hby : ¬ ((281474976710656 : Int) < (n : Int) * (i.bytes : Int)) := by
    have : ((n * i.bytes : Nat) : Int) = (n : Int) * (i.bytes : Int) := by simp
    omega
  have hne : ¬ (n ≤ 0) := by omega
  have h0 : ¬ (n = 0) := by omega
  have h63 : ¬ ((9223372036854775807 : Int) < (n : Int)) := by omega
  have h48 : ¬ (281474976710656 < Builtin.nextslicecap n 0 * i.bytes) := by
    have := growslice_fits (need := n) (old := 0) (bytes := i.bytes) (by omega) (by omega)
    omega
  by_cases hzero : n * i.size = 0
  · have hzz : Builtin.zeroCells z.cells n = #[] := by
      apply Array.eq_empty_of_size_eq_zero
      rw [zeroCells_size, hs, hzero]
    have h00 : i.size = 0 := by rcases Nat.mul_eq_zero.1 hzero with h | h <;> omega
    simp [Builtin.append_, run_underlying ht, run_underlying hk, sizeOf, typeInfo, zeroValue, hi, hz, asInt, asIntOf, w1, hneg, hby, hne, h0, h63, h48, Question.forced, Builtin.firstCells, newRow, grownCap, hzz, h00]
  · have hs0 : ¬ (i.size = 0) := fun e => hzero (by rw [e]; simp)
    simp [Builtin.append_, run_underlying ht, run_underlying hk, sizeOf, typeInfo, zeroValue, hi, hz, asInt, asIntOf, w1, hneg, hby, hne, h0, h63, h48, Question.forced, Builtin.firstCells, newRow, grownCap, hs0]
    exact fun e => absurd e hzero
theorem apn_ok {args : Array Operand} {tys : Array TypeId} {t tx el : TypeId} {k : IntKind} {x y : Operand} {i : TypeInfo} {z : Nat} {zs : List D} {d : Pos} {r1 r2 : RX} {Z : X} (ho : o.op = .call { callee := .builtin .append, args := args, argTypes := tys }) (ha : args.toList = [x, y]) (hty : tys.toList = [t, tx]) (hd : o.dst = some d.ix) (hlt : d.ix < nt)
    (hx : rx x = some r1) (hy : rx y = some r2) (hu : P.underlying t = some (.slice el)) (hs : szOf P el = some z) (hux : P.underlying tx = some (.int k)) (hz : zeroD P el = some zs) (hi : P.info? el = some i) (hzl : zs.length = z) (hby : i.bytes ≤ 65536)
    (h : s_apn d z zs r1 r2 sl ob nx lg = some Z) : OpOk P nt o (r1.ss ++ r2.ss) ⟨sl, ob, nx, lg⟩ Z := by
  have hargs : args = #[x, y] := by rw [← Array.toArray_toList (xs := args), ha]
  have htys : tys = #[t, tx] := by rw [← Array.toArray_toList (xs := tys), hty]
  subst htys
  have hsz : i.size = z := by
    unfold szOf at hs
    rw [hi] at hs
    cases hs; rfl
  obtain ⟨zv, hzv, hcd⟩ : ∃ zv, i.zero = some zv ∧ constDs zv.cells.toList = some zs := by
    unfold zeroD at hz
    rw [hi] at hz
    simp only at hz
    split at hz
    · rename_i zv hzv
      exact ⟨zv, hzv, hz⟩
    · cases hz
  have z2 : ∀ γ w, DVL γ w zs zv.cells.toList := fun γ w => (constDs_ok hcd).1
  have z3 : ∀ u ∈ zv.cells.toList, u.oneCell' = true := (constDs_ok (γ := ⟨fun _ => 0, fun _ _ => (0, 0), fun _ => False⟩) (w := default) hcd).2
  have zsz : zv.cells.size = z := by
    have := (DVL_iff.1 (z2 ⟨fun _ => 0, fun _ _ => (0, 0), fun _ => False⟩ default)).1
    rw [hzl] at this
    simpa using this.symm
  unfold s_apn at h
  split at h
  · rename_i m hvx hvy
    cases hb : (Nat.blt 0 m && Nat.ble m 65536) with
    | false => rw [hb] at h; cases h
    | true =>
      rw [hb] at h
      simp only [cond_true] at h
      rw [repK_eq] at h
      rw [Bool.and_eq_true] at hb
      have e1 : 0 < m := Nat.le_of_ble_eq_true hb.1
      have e2 := Nat.le_of_ble_eq_true hb.2
      obtain ⟨lg2, rfl, h7, h8⟩ := freshK_eq h
      refine OpOk.value hd hlt h7 (by rw [Pos.succ_nat]; omega) ((Keeps.refl _ _).set h8 _) fun V hss hto ro γ a w g R => ?_
      have hv1 := opd_ok hx hvx R fun s h => hss s (by simp [h])
      unfold DV at hv1
      have hv2 := DV_i (opd_ok hy hvy R fun s h => hss s (by simp [h]))
      have hso : V.so nx := hto nx h8.tchd
      have hinit : DVL γ w (reps zs m) (Builtin.zeroCells zv.cells m).toList ∧ ∀ u ∈ (Builtin.zeroCells zv.cells m).toList, u.oneCell' = true := by
        unfold Builtin.zeroCells
        exact zeros_ok (z2 γ w) z3 (by rw [hzl, zsz])
      have hge := grownCap_ge w m 0 el
      obtain ⟨γ', F, g', hv, hoth, hnx⟩ := fresh_rows (P := P) (ds := reps zs m) (us := (Builtin.zeroCells zv.cells m).toList) (el := el) (k := m) (cap := grownCap w m 0 el) (z := z) g R hso (R.nx nx hso (Nat.le_refl _)) hinit.1 hinit.2 (by simp [zeroCells_size, zsz]) hge (rest := Builtin.zeroCells zv.cells (grownCap w m 0 el - m)) (by rw [zeroCells_size, zsz])
      have hr := run_append_zeros (P := P) w t tx o.type el k i zv hu hux hi hzv m e1 e2 hby (by rw [zsz, hsz])
      refine ⟨_, _, γ', run_append ho hargs (by rw [hv1, hv2]; exact hr), F.mono (fun j e => by rw [e]; exact h8), ?_, ?_, ?_, hnx⟩
      · simpa using g'
      · simpa using hv
      · simpa using hoth
  · cases h
theorem app_ok {args : Array Operand} {tys : Array TypeId} {t tx el e' : TypeId} {x y : Operand} {i : TypeInfo} {z : Nat} {zs : List D} {d : Pos} {r1 r2 : RX} {Z : X} (ho : o.op = .call { callee := .builtin .append, args := args, argTypes := tys }) (ha : args.toList = [x, y]) (hty : tys.toList = [t, tx]) (hd : o.dst = some d.ix) (hlt : d.ix < nt)
    (hx : rx x = some r1) (hy : rx y = some r2) (hu : P.underlying t = some (.slice el)) (hs : szOf P el = some z) (hux : P.underlying tx = some (.slice e')) (hz : zeroD P el = some zs) (hi : P.info? el = some i) (hzl : zs.length = z) (hby : i.bytes ≤ 65536)
    (h : s_app d z r1 r2 sl ob nx lg = some Z) : OpOk P nt o (r1.ss ++ r2.ss) ⟨sl, ob, nx, lg⟩ Z := by
  have hargs : args = #[x, y] := by rw [← Array.toArray_toList (xs := args), ha]
  have htys : tys = #[t, tx] := by rw [← Array.toArray_toList (xs := tys), hty]
  subst htys
  have hsz : i.size = z := by
    unfold szOf at hs
    rw [hi] at hs
    cases hs; rfl
  obtain ⟨zv, hzv, zsz⟩ : ∃ zv, i.zero = some zv ∧ zv.cells.size = z := by
    unfold zeroD at hz
    rw [hi] at hz
    simp only at hz
    split at hz
    · rename_i zv hzv
      refine ⟨zv, hzv, ?_⟩
      have := (DVL_iff.1 (constDs_ok (γ := ⟨fun _ => 0, fun _ _ => (0, 0), fun _ => False⟩) (w := default) hz).1).1
      rw [hzl] at this
      simpa using this.symm
    · cases hz
  unfold s_app at h
  split at h
  · rename_i dx dy hvx hvy
    obtain ⟨idy, n, ds, h1, h2, h3⟩ := srcK_ok (P := P) (sl := sl) (nx := nx) (lg := lg) h
    obtain ⟨lg1, h4, h5, h6⟩ := logO_ok h1
    cases n with
    | zero =>
      simp only [Nat.zero_mul, List.length_eq_zero_iff] at h2
      subst h2
      -- nothing is appended: the slice as it is
      have keep : ∀ {V : Sel} {γ : Gh} {a : Act} {w : World}, Rep P V γ a w ⟨sl, ob, nx, lg⟩ → (∀ s, s ∈ r1.ss ++ r2.ss → V.ss s) → (∀ j, idy = some j → V.so j) → ∀ (ad : Option Addr) (len cap : Nat), a.eval x = .slice ad len cap → len ≤ cap → (ad = none → len = 0) →
          (∀ b off, ad = some ⟨b, off, none⟩ → True) → (execOp a.eval o).run P w = .ok (.value (.slice ad len cap)) w := by
        intro V γ a w R hss hj ad len cap e hle _ _
        obtain ⟨us, q1, q2, q3, q4⟩ := h3 R hj (opd_ok hy hvy R fun s h => hss s (by simp [h])) hux
        have hus : us = [] := by
          have := (DVL_iff.1 q2).1
          exact List.length_eq_zero_iff.1 this.symm
        subst hus
        refine run_append ho hargs ?_
        rw [e]
        have hc := q1.cells
        have hl := q1.len
        cases ad with
        | none => simp [Builtin.append_, run_underlying hu, run_underlying hux, sizeOf, typeInfo, hi, hsz, hl, hc, hle]
        | some ad => simp [Builtin.append_, run_underlying hu, run_underlying hux, sizeOf, typeInfo, hi, hsz, hl, hc, hle, storeCells]
      simp only at h4
      split at h4 <;> first | (cases h4; done) | skip
      · rw [outK_eq h4]
        refine OpOk.pure hd hlt h5 fun V hss hto γ a w R => ?_
        have hv := opd_ok hx hvx R fun s h => hss s (by simp [h])
        unfold DV at hv
        exact ⟨_, keep R hss (fun j e => hto j (h6 j e)) none 0 0 hv (Nat.le_refl _) (fun _ => rfl) (fun _ _ _ => trivial), by unfold DV; rfl⟩
      · rw [outK_eq h4]
        refine OpOk.pure hd hlt h5 fun V hss hto γ a w R => ?_
        have hv := opd_ok hx hvx R fun s h => hss s (by simp [h])
        unfold DV at hv
        obtain ⟨ad, hv⟩ := hv
        exact ⟨_, keep R hss (fun j e => hto j (h6 j e)) _ 0 0 hv (Nat.le_refl _) (fun _ => rfl) (fun _ _ _ => trivial), by unfold DV; exact ⟨ad, rfl⟩⟩
      · rename_i id off len st z'
        cases hb : Nat.beq z z' with
        | false => rw [hb] at h4; cases h4
        | true =>
          rw [hb] at h4
          simp only [cond_true] at h4
          split at h4
          · obtain ⟨lg2, h7, h8, _⟩ := logR_ok h4
            rw [outK_eq h7]
            refine OpOk.pure hd hlt (h5.trans h8) fun V hss hto γ a w R => ?_
            have hv := opd_ok hx hvx R fun s h => hss s (by simp [h])
            obtain ⟨_, _, cap, _, _, e, hle, _⟩ := DV_sl hv
            refine ⟨_, keep R hss (fun j e => hto j (h8.t j (h6 j e))) _ len cap e hle (fun e => by cases e) (fun _ _ _ => trivial), ?_⟩
            rw [← e]; exact hv
          · cases h4
    | succ k' =>
      -- onto nothing: a new block
      have fresh : ∀ {Z : X}, (bif Nat.ble (Nat.succ k') 2147483648 then openK ds fun cs => freshK sl ob nx lg1 (.cells false cs 1) d (.sl nx 0 (Nat.succ k') 0 z) else none) = some Z → (∀ {V : Sel} {γ : Gh} {a : Act} {w : World}, Rep P V γ a w ⟨sl, ob, nx, lg⟩ → (∀ s, s ∈ r1.ss ++ r2.ss → V.ss s) → ∃ ad, a.eval x = .slice ad 0 0) → OpOk P nt o (r1.ss ++ r2.ss) ⟨sl, ob, nx, lg⟩ Z := by
        intro Z h hbase
        cases hb : Nat.ble (Nat.succ k') 2147483648 with
        | false => rw [hb] at h; cases h
        | true =>
          rw [hb] at h
          simp only [cond_true] at h
          have hk := Nat.le_of_ble_eq_true hb
          rw [openK_eq] at h
          obtain ⟨lg2, rfl, h7, h8⟩ := freshK_eq h
          refine OpOk.value hd hlt (h5.trans h7) (by rw [Pos.succ_nat]; omega) ((Keeps.refl _ _).set h8 _) fun V hss hto ro γ a w g R => ?_
          obtain ⟨ad, e⟩ := hbase R hss
          obtain ⟨us, q1, q2, q3, q4⟩ := h3 R (fun j e => hto j (h7.t j (h6 j e))) (opd_ok hy hvy R fun s h => hss s (by simp [h])) hux
          have hul : us.length = (k' + 1) * z := by rw [← (DVL_iff.1 q2).1, h2]
          have hfc : (Builtin.firstCells i.size 0 (.slice ad 0 0)).run P w.drew = .ok ([] : List Value).toArray w.drew := by
            cases ad with
            | none => exact run_firstCells_none (P := P) w.drew i.size 0 0 0
            | some ad => exact run_firstCells_some (P := P) w.drew i.size 0 ad 0 0 [] (by simp) (fun j u hu => by simp at hu)
          have hprod : (k' + 1) * i.bytes ≤ 2147483648 * 65536 := Nat.mul_le_mul hk hby
          have hr := run_append_grow_src (P := P) w t tx o.type el i zv hu hi hzv ad 0 0 [] hfc (a.eval y) (k' + 1) us (by rw [hsz]; exact q1) (by omega) (by omega)
            (growslice_fits (by omega) (by rw [Nat.zero_add]; omega))
          simp only [List.nil_append, Nat.zero_add] at hr
          have hge := grownCap_ge w (k' + 1) 0 el
          have hso : V.so nx := hto nx h8.tchd
          obtain ⟨γ', F, g', hv, hoth, hnx⟩ := fresh_rows (P := P) (ds := ds) (us := us) (el := el) (k := k' + 1) (cap := grownCap w (k' + 1) 0 el) (z := z) g R hso (R.nx nx hso (Nat.le_refl _)) q2 q4 hul hge (rest := Builtin.zeroCells zv.cells (grownCap w (k' + 1) 0 el - (k' + 1))) (by rw [zeroCells_size, zsz])
          exact ⟨_, _, γ', run_append ho hargs (by rw [e]; exact hr), F.mono (fun j e => by rw [e]; exact h8), g', hv, hoth, hnx⟩
      simp only at h4
      split at h4 <;> first | (cases h4; done) | skip
      · exact fresh h4 fun {V γ a w} R hss => by
          have hv := opd_ok hx hvx R fun s h => hss s (by simp [h])
          unfold DV at hv
          exact ⟨none, hv⟩
      · exact fresh h4 fun {V γ a w} R hss => by
          have hv := opd_ok hx hvx R fun s h => hss s (by simp [h])
          unfold DV at hv
          obtain ⟨ad, hv⟩ := hv
          exact ⟨_, hv⟩
      · rename_i id off len st z'
        cases hb : (Nat.beq z z' && Nat.ble (Nat.add len (Nat.succ k')) 2147483648) with
        | false => rw [hb] at h4; cases h4
        | true =>
          rw [hb] at h4
          simp only [cond_true] at h4
          rw [Bool.and_eq_true] at hb
          obtain rfl := Nat.eq_of_beq_eq_true hb.1
          have hk : len + (k' + 1) ≤ 2147483648 := Nat.le_of_ble_eq_true hb.2
          split at h4
          · rename_i cs cur hob
            obtain ⟨g1, g2, g3⟩ := growK_ok h4
            simp only [natK_eq] at g3
            obtain ⟨lg2, rfl, h7, h8⟩ := objOutK_eq g3
            refine OpOk.value hd hlt (h5.trans h7) (Nat.le_refl _) ((Keeps.refl _ _).set h8 _) fun V hss hto ro γ a w g R => ?_
            have hso : V.so id := hto id h8.tchd
            have H := R.ob id _ hso hob
            have hv := opd_ok hx hvx R fun s h => hss s (by simp [h])
            obtain ⟨e1, e2, cap, e, n, e3, e4, e5, e6⟩ := DV_sl hv
            obtain ⟨us, q1, q2, q3, q4⟩ := h3 R (fun j e => hto j (h7.t j (h6 j e))) (opd_ok hy hvy R fun s h => hss s (by simp [h])) hux
            have hul : us.length = (k' + 1) * z := by rw [← (DVL_iff.1 q2).1, h2]
            have hcur : cur = γ.cur id := H.2.1.symm
            have hn' : Nat.add off (Nat.mul len z) = off + len * z := rfl
            rw [hn'] at g1 g2 g3
            have hprod : (len + (k' + 1)) * i.bytes ≤ 2147483648 * 65536 := Nat.mul_le_mul hk hby
            have hnxR : ∀ γ' : Gh, γ'.cur = (γ.push id (0, 0)).cur → ∀ j, V.so j → nx.nat ≤ j.nat → γ'.cur j = 0 := by
              intro γ' hc j hj hle
              have hne : j ≠ id := by
                rintro rfl
                have := R.nx j hj hle
                omega
              rw [hc, γ.push_cur_ne _ hne]
              exact R.nx j hj hle
            by_cases hroom : len + (k' + 1) ≤ cap
            · -- there is room
              have hmul : len * z + (k' + 1) * z ≤ cap * z := by rw [← Nat.add_mul]; exact Nat.mul_le_mul_right _ hroom
              obtain ⟨γ', rfl, F, g', H', hc1, hc2⟩ := append_room (n := off + len * z) g H e1 (by omega) g1 g2 q2 q4 e5 (by rw [hul]; omega)
              have hoo : off + len * z - (γ.β id st).2 = off - (γ.β id st).2 + len * z := by omega
              rw [hoo] at F g' H' hc1 hc2
              have hr := run_append_room_src (P := P) w t tx o.type el i hu hi (γ.β id st).1 (off - (γ.β id st).2) len cap (a.eval y) (k' + 1) us (by rw [hsz]; exact q1) hroom (by rw [hsz]; exact hc1) (by rw [hsz]; exact hc2)
              rw [hsz] at hr
              refine ⟨_, _, _, run_append ho hargs (by rw [e3]; exact hr), F.mono (fun j e => by rw [e]; exact h8), g', ?_, others_hold R g F fun _ => H', hnxR _ rfl⟩
              unfold DV
              rw [hcur, γ.push_β, γ.push_cur]
              exact ⟨Nat.lt_succ_self _, e2, cap, e, n, rfl, hroom, F.up.sh _ _ e5, e6⟩
            · -- a new block
              obtain ⟨olds, k1, k2, k3⟩ := append_grow (m := len * z) g H e1 e2 rfl g1 g2 q2 q4
              have hfc : (Builtin.firstCells i.size len (.slice (some ⟨(γ.β id st).1, off - (γ.β id st).2, none⟩) len cap)).run P w.drew = .ok olds.toArray w.drew :=
                run_firstCells_some (P := P) w.drew i.size len _ len cap olds (by rw [k1, hsz]) (fun j u hu => by
                  rw [Addr.add_mid]; exact k2 j u hu)
              have hr := run_append_grow_src (P := P) w t tx o.type el i zv hu hi hzv (some ⟨(γ.β id st).1, off - (γ.β id st).2, none⟩) len cap olds hfc (a.eval y) (k' + 1) us (by rw [hsz]; exact q1) (by omega) (by omega)
                (growslice_fits (by omega) (by omega))
              have hge := grownCap_ge w (len + (k' + 1)) cap el
              obtain ⟨γ', rfl, F, g', H'⟩ := k3 el (Builtin.zeroCells zv.cells (grownCap w (len + (k' + 1)) cap el - (len + (k' + 1))))
              refine ⟨_, _, _, run_append ho hargs (by rw [e3]; exact hr), F.mono (fun j e => by rw [e]; exact h8), g', ?_, others_hold R g F fun _ => H', hnxR _ rfl⟩
              unfold DV
              rw [hcur, γ.push_β, γ.push_cur]
              refine ⟨Nat.lt_succ_self _, Nat.le_refl _, grownCap w (len + (k' + 1)) cap el, el, _, ?_, hge, shape_cells (heap_alloc_self w.drew _), ?_⟩
              · show _ = Value.slice (some ⟨w.heap.size, off - off, none⟩) (len + (k' + 1)) _
                rw [Nat.sub_self]
              · simp only [Array.size_append, List.size_toArray, List.length_append, k1, hul, zeroCells_size, zsz, Nat.sub_self, Nat.zero_add]
                rw [← Nat.add_mul, ← Nat.add_mul]
                exact Nat.mul_le_mul_right _ (by omega)
          · cases h4
  · cases h
end
end Go.Ev
namespace Go.Ev
open Go.RowKit (Below)
section
variable {P : Program} {V : Sel} {γ : Gh} {a : Act} {w : World} {sl : T D} {ob : T C} {nx : Pos} {lg : Option (T Bool)} {nt : Nat} {o : Oper} {ro : Option Nat}
theorem run_sliceBound {k : IntKind} {m y : Nat} {code : BoundsCode} (h : m ≤ y) : (Instr.sliceBound (.int k (m : Int)) y code).run P w = .ok m w := by
  have h2 : ¬ (y < m) := by omega
  simp [Instr.sliceBound, asIntOf, h2]
theorem run_sliceBounds {s : Bool} {len cap l h m : Nat} {lo hi mx : Option Value} (hlo : (lo = none ∧ l = 0) ∨ ∃ k, lo = some (.int k (l : Int))) (hhi : (hi = none ∧ h = len) ∨ ∃ k, hi = some (.int k (h : Int)))
    (hmx : (mx = none ∧ m = cap) ∨ (hi ≠ none ∧ ∃ k, mx = some (.int k (m : Int)))) (h1 : l ≤ h) (h2 : h ≤ m) (h3 : m ≤ cap) : (Instr.sliceBounds s len cap lo hi mx).run P w = .ok (l, h, m) w := by
  rcases hmx with ⟨rfl, rfl⟩ | ⟨hne, km, rfl⟩
  · rcases hhi with ⟨rfl, rfl⟩ | ⟨kh, rfl⟩ <;> rcases hlo with ⟨rfl, rfl⟩ | ⟨kl, rfl⟩ <;>
      simp [Instr.sliceBounds, run_sliceBound (P := P) (w := w) h1, run_sliceBound (P := P) (w := w) h2]
  · rcases hhi with ⟨rfl, _⟩ | ⟨kh, rfl⟩
    · exact absurd rfl hne
    · rcases hlo with ⟨rfl, rfl⟩ | ⟨kl, rfl⟩ <;>
        simp [Instr.sliceBounds, run_sliceBound (P := P) (w := w) h1, run_sliceBound (P := P) (w := w) h2, run_sliceBound (P := P) (w := w) h3]
theorem bnd_ok {x : Option Operand} {r : Option RX} {dflt : Nat} {k : Nat → Option X} {Z : X} (hx : rxo x = some r) (h : bnd sl r dflt k = some Z) : ∃ m, k m = some Z ∧
    ∀ {V : Sel} {γ : Gh} {a : Act} {w : World}, Rep P V γ a w ⟨sl, ob, nx, lg⟩ → (∀ s, s ∈ RX.sso r → V.ss s) → ((x.map a.eval) = none ∧ m = dflt) ∨ ∃ kk, x.map a.eval = some (.int kk (m : Int)) := by
  cases x with
  | none =>
    cases hx
    exact ⟨dflt, h, fun {V γ a w} _ _ => .inl ⟨rfl, rfl⟩⟩
  | some x =>
    simp only [rxo] at hx
    split at hx
    · rename_i p hp
      cases hx
      unfold bnd at h
      simp only at h
      split at h
      · rename_i kk m hv
        refine ⟨m, h, fun {V γ a w} R hs => .inr ⟨kk, ?_⟩⟩
        have := DV_i (opd_ok hp hv R hs)
        simp [this]
      · cases h
    · cases hx
theorem run_slice' {t el : TypeId} {z : Nat} (hu : P.underlying t = some (.slice el)) (hz : szOf P el = some z) {ad : Option Addr} {len cap l h m : Nat} {lo hi mx : Option Value} (hb : (Instr.sliceBounds true len cap lo hi mx).run P w = .ok (l, h, m) w) :
    (Instr.sliceAt t (.slice ad len cap) lo hi mx).run P w = .ok (.slice (if m = l then ad else ad.map (·.add (l * z))) (h - l) (m - l)) w := by
  simp [Instr.sliceAt, Instr.slice, run_underlying hu, hb, run_sizeOf' hz]
theorem slc_ok {t el : TypeId} {x : Operand} {lo hi mx : Option Operand} {z : Nat} {d : Pos} {r : RX} {rlo rhi rmx : Option RX} {Z : X} (ho : o.op = .slice t x lo hi mx) (hd : o.dst = some d.ix) (hlt : d.ix < nt) (hx : rx x = some r) (hlo : rxo lo = some rlo) (hhi : rxo hi = some rhi) (hmx : rxo mx = some rmx)
    (hne : (rhi.isNone && rmx.isSome) = false) (hu : P.underlying t = some (.slice el)) (hz : szOf P el = some z) (h : s_slc d z r rlo rhi rmx sl ob nx lg = some Z) : OpOk P nt o (r.ss ++ (RX.sso rlo ++ (RX.sso rhi ++ RX.sso rmx))) ⟨sl, ob, nx, lg⟩ Z := by
  have hne' : ∀ a : Act, mx.map a.eval ≠ none → hi.map a.eval ≠ none := by
    intro a h1 h2
    cases mx with
    | none => exact h1 rfl
    | some q =>
      cases hi with
      | some q => cases h2
      | none =>
        cases hhi
        simp only [rxo] at hmx
        split at hmx
        · cases hmx; cases hne
        · cases hmx
  unfold s_slc at h
  split at h <;> first | (cases h; done) | skip
  · rename_i id off len st z' hv
    cases hb : Nat.beq z z' with
    | false => rw [hb] at h; cases h
    | true =>
      rw [hb] at h
      simp only [cond_true] at h
      obtain rfl := Nat.eq_of_beq_eq_true hb
      obtain ⟨l, h, hl⟩ := bnd_ok (P := P) (ob := ob) (nx := nx) (lg := lg) hlo h
      obtain ⟨hh, h, hhh⟩ := bnd_ok (P := P) (ob := ob) (nx := nx) (lg := lg) hhi h
      cases hb2 : (Nat.ble l hh && Nat.ble hh len) with
      | false => rw [hb2] at h; cases h
      | true =>
        rw [hb2] at h
        simp only [cond_true] at h
        rw [Bool.and_eq_true] at hb2
        have b1 := Nat.le_of_ble_eq_true hb2.1
        have b2 := Nat.le_of_ble_eq_true hb2.2
        have fin : ∀ {V : Sel} {γ : Gh} {a : Act} {w : World} (m cap : Nat), (a.eval x = .slice (some ⟨(γ.β id st).1, off - (γ.β id st).2, none⟩) len cap) → (Instr.sliceBounds true len cap (lo.map a.eval) (hi.map a.eval) (mx.map a.eval)).run P w = .ok (l, hh, m) w →
            (execOp a.eval o).run P w = .ok (.value (.slice (if m = l then some ⟨(γ.β id st).1, off - (γ.β id st).2, none⟩ else some ⟨(γ.β id st).1, off - (γ.β id st).2 + l * z, none⟩) (hh - l) (m - l))) w := by
          intro V γ a w m cap e hbb
          have := run_slice' (P := P) (w := w) hu hz (ad := some ⟨(γ.β id st).1, off - (γ.β id st).2, none⟩) hbb
          simp only [Option.map_some, Addr.add_mid] at this
          simp [execOp, ho, e, this]
        have dv : ∀ {γ : Gh} {w : World} (m cap : Nat) {e : TypeId} {n : Nat}, st < γ.cur id → (γ.β id st).2 ≤ off → w.shape? (γ.β id st).1 = some (e, n) → off - (γ.β id st).2 + cap * z ≤ n → m ≤ cap → hh ≤ m → (l < m ∨ l = 0) →
            DV γ w (.sl id (off + l * z) (hh - l) st z) (.slice (if m = l then some ⟨(γ.β id st).1, off - (γ.β id st).2, none⟩ else some ⟨(γ.β id st).1, off - (γ.β id st).2 + l * z, none⟩) (hh - l) (m - l)) := by
          intro γ w m cap e n e1 e2 e5 e6 hmc hhm hl0
          unfold DV
          refine ⟨e1, by omega, m - l, e, n, ?_, by omega, e5, ?_⟩
          · have ho2 : off + l * z - (γ.β id st).2 = off - (γ.β id st).2 + l * z := by omega
            rw [ho2]
            by_cases hml : m = l
            · rw [if_pos hml]
              have hl : l = 0 := by omega
              rw [hl]; simp
            · rw [if_neg hml]
          · have : l * z + (m - l) * z ≤ cap * z := by
              rw [← Nat.add_mul]
              exact Nat.mul_le_mul_right _ (by omega)
            omega
        cases rmx with
        | none =>
          simp only at h
          cases hb3 : (Nat.blt l hh || Nat.beq l 0) with
          | false => rw [hb3] at h; cases h
          | true =>
            rw [hb3] at h
            simp only [cond_true, natK_eq] at h
            rw [outK_eq h]
            have hl0 : l < hh ∨ l = 0 := by
              rcases Bool.or_eq_true _ _ ▸ hb3 with h | h
              · exact .inl (Nat.le_of_ble_eq_true h)
              · exact .inr (Nat.eq_of_beq_eq_true h)
            have hmxn : mx = none := by
              cases mx with
              | none => rfl
              | some q => simp only [rxo] at hmx; split at hmx <;> cases hmx
            refine OpOk.pure hd hlt (LgLe.refl _) fun V hs _ γ a w R => ?_
            obtain ⟨e1, e2, cap, e, n, e3, e4, e5, e6⟩ := DV_sl (opd_ok hx hv R fun s h => hs s (by simp [h]))
            have hbb := run_sliceBounds (P := P) (w := w) (s := true) (m := cap) (cap := cap) (mx := mx.map a.eval) (hl R fun s h => hs s (by simp [h])) (hhh R fun s h => hs s (by simp [h])) (.inl ⟨by rw [hmxn]; rfl, rfl⟩) b1 (by omega) (Nat.le_refl _)
            exact ⟨_, fin (V := V) cap cap e3 hbb, dv cap cap e1 e2 e5 e6 (Nat.le_refl _) (by omega) (by omega)⟩
        | some rm =>
          simp only at h
          obtain ⟨m, h, hm⟩ := bnd_ok (P := P) (ob := ob) (nx := nx) (lg := lg) (x := mx) (r := some rm) hmx h
          cases hb3 : (Nat.ble hh m && Nat.ble m len) with
          | false => rw [hb3] at h; cases h
          | true =>
            rw [hb3] at h
            simp only [cond_true] at h
            rw [Bool.and_eq_true] at hb3
            have b3 := Nat.le_of_ble_eq_true hb3.1
            have b4 := Nat.le_of_ble_eq_true hb3.2
            have hmxs : ∀ a : Act, mx.map a.eval ≠ none := by
              intro a
              cases mx with
              | none => cases hmx
              | some q => simp
            have hbb : ∀ {V : Sel} {γ : Gh} {a : Act} {w : World} {cap : Nat}, Rep P V γ a w ⟨sl, ob, nx, lg⟩ → (∀ s, s ∈ r.ss ++ (RX.sso rlo ++ (RX.sso rhi ++ RX.sso (some rm))) → V.ss s) → len ≤ cap →
                (Instr.sliceBounds true len cap (lo.map a.eval) (hi.map a.eval) (mx.map a.eval)).run P w = .ok (l, hh, m) w := by
              intro V γ a w cap R hs hc
              refine run_sliceBounds (hl R fun s h => hs s (by simp [h])) (hhh R fun s h => hs s (by simp [h])) (.inr ⟨hne' a (hmxs a), ?_⟩) b1 b3 (by omega)
              rcases hm R fun s h => hs s (by simp [h]) with ⟨h1, _⟩ | h1
              · exact absurd h1 (hmxs a)
              · exact h1
            cases hb4 : Nat.blt l m with
            | true =>
              rw [hb4] at h
              simp only [cond_true, natK_eq] at h
              rw [outK_eq h]
              have hlm : l < m := Nat.le_of_ble_eq_true hb4
              refine OpOk.pure hd hlt (LgLe.refl _) fun V hs _ γ a w R => ?_
              obtain ⟨e1, e2, cap, e, n, e3, e4, e5, e6⟩ := DV_sl (opd_ok hx hv R fun s h => hs s (by simp [h]))
              exact ⟨_, fin (V := V) m cap e3 (hbb R hs e4), dv m cap e1 e2 e5 e6 (by omega) b3 (.inl hlm)⟩
            | false =>
              rw [hb4] at h
              simp only [cond_false] at h
              rw [outK_eq h]
              have hml : m = l := by
                have : ¬ l < m := fun e => by rw [show Nat.blt l m = true from Nat.ble_eq_true_of_le e] at hb4; cases hb4
                omega
              refine OpOk.pure hd hlt (LgLe.refl _) fun V hs _ γ a w R => ?_
              obtain ⟨e1, e2, cap, e, n, e3, e4, e5, e6⟩ := DV_sl (opd_ok hx hv R fun s h => hs s (by simp [h]))
              refine ⟨_, fin (V := V) m cap e3 (hbb R hs e4), ?_⟩
              unfold DV
              rw [if_pos hml]
              exact ⟨_, by rw [show hh - l = 0 by omega, show m - l = 0 by omega]⟩
  · rename_i z' es hv
    cases hb : Nat.beq z z' with
    | false => rw [hb] at h; cases h
    | true =>
      rw [hb] at h
      simp only [cond_true] at h
      obtain rfl := Nat.eq_of_beq_eq_true hb
      obtain ⟨l, h, hl⟩ := bnd_ok (P := P) (ob := ob) (nx := nx) (lg := lg) hlo h
      obtain ⟨hh, h, hhh⟩ := bnd_ok (P := P) (ob := ob) (nx := nx) (lg := lg) hhi h
      cases hb2 : (Nat.ble l hh && Nat.ble hh (List.length es)) with
      | false => rw [hb2] at h; cases h
      | true =>
        rw [hb2] at h
        simp only [cond_true] at h
        rw [Bool.and_eq_true] at hb2
        have b1 := Nat.le_of_ble_eq_true hb2.1
        have b2 := Nat.le_of_ble_eq_true hb2.2
        split at h
        · have hmxn : mx = none := by
            cases mx with
            | none => rfl
            | some q => simp only [rxo] at hmx; split at hmx <;> cases hmx
          rw [outK_eq h]
          refine OpOk.pure hd hlt (LgLe.refl _) fun V hs _ γ a w R => ?_
          obtain ⟨p, cap, e3, e4, e5, e6⟩ := DV_lst (opd_ok hx hv R fun s h => hs s (by simp [h]))
          have hbb := run_sliceBounds (P := P) (w := w) (s := true) (m := cap) (cap := cap) (mx := mx.map a.eval) (hl R fun s h => hs s (by simp [h])) (hhh R fun s h => hs s (by simp [h])) (.inl ⟨by rw [hmxn]; rfl, rfl⟩) b1 (by omega) (Nat.le_refl _)
          have hrun := run_slice' (P := P) (w := w) hu hz (ad := p) hbb
          refine ⟨_, by simp [execOp, ho, e3, hrun]; rfl, ?_⟩
          have hsub : Nat.sub hh l = hh - l := rfl
          have hlen : ((es.drop l).take (hh - l)).length = hh - l := by simp; omega
          rw [hsub]
          unfold DV
          refine ⟨_, cap - l, by rw [hlen], by omega, fun hp => ?_, ?_⟩
          · split at hp
            · omega
            · cases p with
              | none => have := e5 rfl; omega
              | some _ => cases hp
          · by_cases h0 : hh = l
            · left; rw [h0]; simp
            · right
              rcases e6 with rfl | ⟨b, o', vs, e, fr, k1, k2, rfl, k4, k5, k6⟩
              · simp at b2; omega
              · have hne : ¬ cap = l := by omega
                rw [if_neg hne]
                have hle : l * z + (hh - l) * z ≤ es.length * z := by rw [← Nat.add_mul]; exact Nat.mul_le_mul_right z (by omega)
                refine ⟨b, o' + l * z, vs, e, fr, k1, k2, by simp [Addr.add_mid], by rw [hlen]; omega, ?_, ?_⟩
                · rw [← List.drop_drop]; exact DVE_take (DVE_drop k5)
                · rw [hlen, ← List.drop_drop]
                  intro u hu
                  refine k6 u ?_
                  have h2 : ((vs.toList.drop o').drop (l * z)).take ((hh - l) * z) = ((vs.toList.drop o').take (l * z + (hh - l) * z)).drop (l * z) := by rw [List.drop_take]; simp
                  rw [h2] at hu
                  have h3 := List.mem_of_mem_drop hu
                  have h4 : (vs.toList.drop o').take (l * z + (hh - l) * z) = ((vs.toList.drop o').take (es.length * z)).take (l * z + (hh - l) * z) := by rw [List.take_take, Nat.min_eq_left hle]
                  rw [h4] at h3
                  exact List.mem_of_mem_take h3
        · cases h
  all_goals
    rename_i hv
    obtain ⟨l, h1, hl⟩ := bnd_ok (P := P) (ob := ob) (nx := nx) (lg := lg) hlo h
    obtain ⟨hh, h2, hhh⟩ := bnd_ok (P := P) (ob := ob) (nx := nx) (lg := lg) hhi h1
    obtain ⟨m, h3, hm⟩ := bnd_ok (P := P) (ob := ob) (nx := nx) (lg := lg) hmx h2
    cases hb2 : (Nat.beq l 0 && Nat.beq hh 0 && Nat.beq m 0) with
    | false => rw [hb2] at h3; cases h3
    | true =>
      rw [hb2] at h3
      simp only [cond_true] at h3
      rw [Bool.and_eq_true, Bool.and_eq_true] at hb2
      obtain rfl := Nat.eq_of_beq_eq_true hb2.1.1
      obtain rfl := Nat.eq_of_beq_eq_true hb2.1.2
      obtain rfl := Nat.eq_of_beq_eq_true hb2.2
      rw [outK_eq h3]
      refine OpOk.pure hd hlt (LgLe.refl _) fun V hs _ γ a w R => ?_
      have hbb : (Instr.sliceBounds true 0 0 (lo.map a.eval) (hi.map a.eval) (mx.map a.eval)).run P w = .ok (0, 0, 0) w := by
        refine run_sliceBounds (hl R fun s h => hs s (by simp [h])) (hhh R fun s h => hs s (by simp [h])) ?_ (Nat.le_refl _) (Nat.le_refl _) (Nat.le_refl _)
        rcases hm R fun s h => hs s (by simp [h]) with h1 | h1
        · exact .inl h1
        · exact .inr ⟨hne' a (by obtain ⟨_, h1⟩ := h1; rw [h1]; simp), h1⟩
      have hv := opd_ok hx hv R fun s h => hs s (by simp [h])
      unfold DV at hv
      first
        | (have hr := run_slice' (P := P) (w := w) hu hz (ad := none) hbb
           exact ⟨_, by simp [execOp, ho, hv, hr]; rfl, by unfold DV; rfl⟩)
        | (obtain ⟨ad, hv⟩ := hv
           have hr := run_slice' (P := P) (w := w) hu hz (ad := some ad) hbb
           exact ⟨.slice (some ad) 0 0, by simp [execOp, ho, hv, hr], by unfold DV; exact ⟨ad, rfl⟩⟩)
theorem sla_ok {t el : TypeId} {x : Operand} {lo hi mx : Option Operand} {n z : Nat} {d : Pos} {r : RX} {rlo rhi rmx : Option RX} {Z : X} (ho : o.op = .slice t x lo hi mx) (hd : o.dst = some d.ix) (hlt : d.ix < nt) (hx : rx x = some r) (hlo : rxo lo = some rlo) (hhi : rxo hi = some rhi) (hmx : rxo mx = some rmx)
    (hu : P.underlying t = some (.array n el)) (hz : szOf P el = some z) (h : s_sla d n z r rlo rhi rmx sl ob nx lg = some Z) : OpOk P nt o (r.ss ++ (RX.sso rlo ++ (RX.sso rhi ++ RX.sso rmx))) ⟨sl, ob, nx, lg⟩ Z := by
  unfold s_sla at h
  split at h
  · rename_i id off st hv
    split at h
    · rename_i q cs cur hob
      obtain ⟨l, h, hl⟩ := bnd_ok (P := P) (ob := ob) (nx := nx) (lg := lg) hlo h
      obtain ⟨hh, h, hhh⟩ := bnd_ok (P := P) (ob := ob) (nx := nx) (lg := lg) hhi h
      split at h
      · have hmxn : mx = none := by
          cases mx with
          | none => rfl
          | some q => simp only [rxo] at hmx; split at hmx <;> cases hmx
        subst hmxn
        cases hb : (Nat.ble l hh && Nat.ble hh n && Nat.blt l n && Nat.blt 0 z) with
        | false => rw [hb] at h; cases h
        | true =>
          rw [hb] at h
          simp only [cond_true] at h
          rw [Bool.and_eq_true, Bool.and_eq_true, Bool.and_eq_true] at hb
          have b1 := Nat.le_of_ble_eq_true hb.1.1.1
          have b2 := Nat.le_of_ble_eq_true hb.1.1.2
          have b3 : l < n := Nat.le_of_ble_eq_true hb.1.2
          have b4 : 0 < z := Nat.le_of_ble_eq_true hb.2
          split at h
          · rename_i c hc
            obtain ⟨h1, h2⟩ := cellK_ok h
            simp only [natK_eq] at h2
            obtain ⟨lg', h3, h4, h5⟩ := logR_ok h2
            rw [outK_eq h3]
            rw [nthC_eq] at hc
            have hpos : 0 < n * z := Nat.mul_pos (by omega) b4
            have hidx : Nat.pred (Nat.add off (Nat.mul n z)) = off + n * z - 1 := rfl
            rw [hidx] at hc
            refine OpOk.pure hd hlt h4 fun V hs hto γ a w R => ?_
            obtain ⟨e1, e2, e3⟩ := DV_pt (opd_ok hx hv R fun s h => hs s (by simp [h]))
            have H := R.ob id _ (hto id h5) hob
            obtain ⟨_, c1, c2⟩ := H
            obtain ⟨vs, e, fr, c3, c4, c5⟩ := c2 st (by omega)
            obtain ⟨u, c6, _⟩ := c5 _ c hc h1 (by omega)
            have hsz := (Array.getElem?_eq_some_iff.1 c6).1
            have hbb := run_sliceBounds (P := P) (w := w) (s := false) (len := n) (cap := n) (m := n) (hl R fun s h => hs s (by simp [h])) (hhh R fun s h => hs s (by simp [h])) (.inl ⟨rfl, rfl⟩) b1 b2 (Nat.le_refl _)
            have hnl : ¬ n = l := by omega
            refine ⟨.slice (some ⟨(γ.β id st).1, off - (γ.β id st).2 + l * z, none⟩) (hh - l) (n - l), ?_, ?_⟩
            · simp [execOp, ho, e3, Instr.sliceAt, run_underlying hu, Instr.sureAddr, hbb, run_sizeOf' hz, hnl, Addr.add_mid]
            · unfold DV
              have hadd : Nat.add off (Nat.mul l z) = off + l * z := rfl
              have hsub : Nat.sub hh l = hh - l := rfl
              rw [hadd, hsub]
              refine ⟨e1, by omega, n - l, e, vs.size, ?_, by omega, shape_cells c3, ?_⟩
              · rw [show off + l * z - (γ.β id st).2 = off - (γ.β id st).2 + l * z by omega]
              · have : l * z + (n - l) * z = n * z := by rw [← Nat.add_mul]; congr 1; omega
                omega
          · cases h
      · cases h
    · cases h
  · rename_i r' off hv
    obtain ⟨l, h, hl⟩ := bnd_ok (P := P) (ob := ob) (nx := nx) (lg := lg) hlo h
    obtain ⟨hh, h, hhh⟩ := bnd_ok (P := P) (ob := ob) (nx := nx) (lg := lg) hhi h
    split at h
    · have hmxn : mx = none := by
        cases mx with
        | none => rfl
        | some q => simp only [rxo] at hmx; split at hmx <;> cases hmx
      subst hmxn
      cases hb : (Nat.ble l hh && Nat.ble hh n && Nat.blt l n && Nat.ble (Nat.add off (Nat.mul n z)) (List.length r')) with
      | false => rw [hb] at h; cases h
      | true =>
        rw [hb] at h
        simp only [cond_true] at h
        rw [Bool.and_eq_true, Bool.and_eq_true, Bool.and_eq_true] at hb
        have b1 := Nat.le_of_ble_eq_true hb.1.1.1
        have b2 := Nat.le_of_ble_eq_true hb.1.1.2
        have b3 : l < n := Nat.le_of_ble_eq_true hb.1.2
        have b4 : off + n * z ≤ r'.length := Nat.le_of_ble_eq_true hb.2
        rw [outK_eq h]
        refine OpOk.pure hd hlt (LgLe.refl _) fun V hs _ γ a w R => ?_
        obtain ⟨b, q, vs, e, fr, k1, k2, e3, k4, k5, k6⟩ := DV_pl (opd_ok hx hv R fun s h => hs s (by simp [h]))
        have hbb := run_sliceBounds (P := P) (w := w) (s := false) (len := n) (cap := n) (m := n) (hl R fun s h => hs s (by simp [h])) (hhh R fun s h => hs s (by simp [h])) (.inl ⟨rfl, rfl⟩) b1 b2 (Nat.le_refl _)
        have hnl : ¬ n = l := by omega
        refine ⟨.slice (some ⟨b, q + off + l * z, none⟩) (hh - l) (n - l), ?_, ?_⟩
        · simp [execOp, ho, e3, Instr.sliceAt, run_underlying hu, Instr.sureAddr, hbb, run_sizeOf' hz, hnl, Addr.add_mid]
        · unfold DV
          have hadd : Nat.add off (Nat.mul l z) = off + l * z := rfl
          have hsub : Nat.sub hh l = hh - l := rfl
          rw [hadd, hsub]
          have hlz : l * z + (hh - l) * z = hh * z := by rw [← Nat.add_mul]; congr 1; omega
          have hhz : hh * z ≤ n * z := Nat.mul_le_mul_right z b2
          refine ⟨some ⟨b, q + off + l * z, none⟩, n - l, by rw [chunks_length], by rw [chunks_length]; omega, (fun hp => by cases hp), .inr ⟨b, q + off + l * z, vs, e, fr, k1, k2, rfl, by rw [chunks_length]; omega, ?_, ?_⟩⟩
          · refine DVE_chunks (by simp; omega) ?_
            have h1 := k5.drop (off + l * z)
            rw [List.drop_take, List.drop_drop] at h1
            rw [Nat.add_assoc]
            simpa using h1
          · rw [chunks_length]
            intro u hu
            refine k6 u ?_
            have h2 : (vs.toList.drop (q + off + l * z)).take ((hh - l) * z) = (((vs.toList.drop q).take r'.length).drop (off + l * z)).take ((hh - l) * z) := by
              rw [List.drop_take, List.take_take, List.drop_drop, Nat.min_eq_left (by omega), Nat.add_assoc]
            rw [h2] at hu
            exact List.mem_of_mem_drop (List.mem_of_mem_take hu)
    · cases h
  · cases h
theorem clr_ok {args : Array Operand} {tys : Array TypeId} {t el : TypeId} {x : Operand} {z : Nat} {zs : List D} {r1 : RX} {Z : X} (ho : o.op = .call { callee := .builtin .clear, args := args, argTypes := tys }) (ha : args.toList = [x]) (hty : tys.toList = [t])
    (hd : o.dst = none)
    (hx : rx x = some r1) (hu : P.underlying t = some (.slice el)) (hs : szOf P el = some z) (hz : zeroD P el = some zs) (hzl : zs.length = z) (h : s_clr z zs r1 sl ob nx lg = some Z) : OpOk P nt o r1.ss ⟨sl, ob, nx, lg⟩ Z := by
  have hargs : args = #[x] := by rw [← Array.toArray_toList (xs := args), ha]
  have htys : tys = #[t] := by rw [← Array.toArray_toList (xs := tys), hty]
  subst hargs
  subst htys
  obtain ⟨i, zv, hi, hzv, hcd⟩ : ∃ i zv, P.info? el = some i ∧ i.zero = some zv ∧ constDs zv.cells.toList = some zs := by
    unfold zeroD at hz
    split at hz
    · rename_i i hi
      split at hz
      · rename_i zv hzv
        exact ⟨i, zv, hi, hzv, hz⟩
      · cases hz
    · cases hz
  have z2 : ∀ γ w, DVL γ w zs zv.cells.toList := fun γ w => (constDs_ok hcd).1
  have z3 : ∀ u ∈ zv.cells.toList, u.oneCell' = true := (constDs_ok (γ := ⟨fun _ => 0, fun _ _ => (0, 0), fun _ => False⟩) (w := default) hcd).2
  have zsz : zv.cells.size = z := by
    have := (DVL_iff.1 (z2 ⟨fun _ => 0, fun _ _ => (0, 0), fun _ => False⟩ default)).1
    rw [hzl] at this
    simpa using this.symm
  unfold s_clr at h
  split at h
  · rename_i id off len st z' hvx
    cases hb : (Nat.beq z z' && Nat.blt 0 (List.length (reps zs len))) with
    | false => rw [hb] at h; cases h
    | true =>
      rw [hb] at h
      simp only [cond_true] at h
      rw [Bool.and_eq_true] at hb
      obtain rfl := Nat.eq_of_beq_eq_true hb.1
      have b2 : 0 < (reps zs len).length := Nat.le_of_ble_eq_true hb.2
      have hl0 : len ≠ 0 := fun e => by subst e; simp [reps] at b2
      split at h
      · rename_i cs cur hob
        have key : ∀ mk : D → Cell, ((mk = (fun d => .o d st) ∧ st + 1 = cur) ∨ mk = (fun d => .c d st st)) → writeK st mk (reps zs len) off cs (fun cs => objK sl ob nx lg id (.cells false cs cur)) = some Z → OpOk P nt o r1.ss ⟨sl, ob, nx, lg⟩ Z := by
          intro mk hmk h
          obtain ⟨g1, g2, g3⟩ := writeK_ok h
          obtain ⟨lg2, rfl, h7, h8⟩ := objK_eq g2
          exact OpOk.skip hd h7 ((Keeps.refl _ _).set h8 _) fun V hs hto ro γ a w g R => by
            obtain ⟨e1, e2, cap, e, m, e3, e4, e5, e6⟩ := DV_sl (opd_ok hx hvx R fun s h => hs s h)
            have hinit : DVL γ w (reps zs len) (Builtin.zeroCells zv.cells len).toList ∧ ∀ u ∈ (Builtin.zeroCells zv.cells len).toList, u.oneCell' = true := by
              unfold Builtin.zeroCells
              exact zeros_ok (z2 γ w) z3 (by rw [hzl, zsz])
            obtain ⟨vs, e7, p1, p2, F, g', H'⟩ := write_hold g (R.ob id _ (hto id h8.tchd) hob) e1 e2 b2 g1 g3 hinit.1 hinit.2 hmk
            have hst := run_storeCells_cells (P := P) (γ.β id st).1 (off - (γ.β id st).2) (Builtin.zeroCells zv.cells len).toList 0 w (fun j hj => by
              have : off - (γ.β id st).2 + j < vs.size := by omega
              simp [World.cell?, p1, this]) (fun j hj => by simp [World.frozen?, p1]) hinit.2
            simp only [Nat.add_zero] at hst
            refine ⟨_, .inr ⟨.tuple #[], ?_⟩, F.mono (fun j e => by rw [e]; exact h8), g', others_hold R g F fun _ => H'⟩
            obtain ⟨cst, hb⟩ := run_builtin (P := P) ho a w
            rw [hb]
            simp [builtin, Builtin.clear_, run_underlying hu, e3, hl0, zeroValue, hi, hzv, typeInfo, hst]
        cases hb2 : Nat.beq (Nat.succ st) cur with
        | true =>
          rw [hb2] at h
          exact key _ (.inl ⟨rfl, Nat.eq_of_beq_eq_true hb2⟩) h
        | false =>
          rw [hb2] at h
          exact key _ (.inr rfl) h
      · cases h
  · cases h
theorem cpy_ok {args : Array Operand} {tys : Array TypeId} {t tx el e' : TypeId} {x y : Operand} {z : Nat} {dst : Option Pos} {r1 r2 : RX} {Z : X} (ho : o.op = .call { callee := .builtin .copy, args := args, argTypes := tys }) (ha : args.toList = [x, y]) (hty : tys.toList = [t, tx])
    (hd : o.dst = dst.map Pos.ix) (hlt : ∀ d, dst = some d → d.ix < nt)
    (hx : rx x = some r1) (hy : rx y = some r2) (hu : P.underlying t = some (.slice el)) (hz : szOf P el = some z) (hux : P.underlying tx = some (.slice e')) (h : s_cpy dst z r1 r2 sl ob nx lg = some Z) : OpOk P nt o (r1.ss ++ r2.ss) ⟨sl, ob, nx, lg⟩ Z := by
  have hargs : args = #[x, y] := by rw [← Array.toArray_toList (xs := args), ha]
  have htys : tys = #[t, tx] := by rw [← Array.toArray_toList (xs := tys), hty]
  subst hargs
  subst htys
  unfold s_cpy at h
  split at h
  · rename_i id off len st z' dy hvx hvy
    obtain ⟨idy, n, ds, h1, h2, h3⟩ := srcK_ok (P := P) (sl := sl) (nx := nx) (lg := lg) h
    obtain ⟨lg1, h4, h5, h6⟩ := logO_ok h1
    cases hb : (Nat.beq z z' && Nat.ble n len && Nat.blt 0 (List.length ds)) with
    | false => rw [hb] at h4; cases h4
    | true =>
      rw [hb] at h4
      simp only [cond_true] at h4
      rw [Bool.and_eq_true, Bool.and_eq_true] at hb
      obtain rfl := Nat.eq_of_beq_eq_true hb.1.1
      have b1 := Nat.le_of_ble_eq_true hb.1.2
      have b2 : 0 < ds.length := Nat.le_of_ble_eq_true hb.2
      split at h4
      · rename_i cs cur hob
        have key : ∀ mk : D → Cell, ((mk = (fun d => .o d st) ∧ st + 1 = cur) ∨ mk = (fun d => .c d st st)) → writeK st mk ds off cs (fun cs => match dst with
              | none => objK sl ob nx lg1 id (.cells false cs cur)
              | some d => objOutK sl ob nx lg1 id (.cells false cs cur) d (.i .i64 (.ofNat n))) = some Z → OpOk P nt o (r1.ss ++ r2.ss) ⟨sl, ob, nx, lg⟩ Z := by
          intro mk hmk h
          obtain ⟨g1, g2, g3⟩ := writeK_ok h
          -- the run itself
          have run : ∀ {V : Sel} {lg2 : Option (T Bool)}, (∀ s, s ∈ r1.ss ++ r2.ss → V.ss s) → (∀ j, tchd lg2 j → V.so j) → LgLe lg1 lg2 → wrtn lg2 id → ∀ (ro : Option Nat) (γ : Gh) (a : Act) (w : World), G ro γ a w → Rep P V γ a w ⟨sl, ob, nx, lg⟩ →
              ∃ w', (execOp a.eval o).run P w = .ok (.value (.int .i64 (n : Int))) w' ∧ Fr (wrtn lg2) γ γ w w' ∧ (∀ a' : Act, a'.defers = a.defers → G ro γ a' w') ∧
                (∀ j c, V.so j → (T.set id (.cells false (cs.take off ++ (ds.map mk ++ cs.drop (off + ds.length))) cur) ob).get j = some c → HoldsO P γ w' j c) := by
            intro V lg2 hs hto hl2 hw2 ro γ a w g R
            obtain ⟨e1, e2, cap, e, m, e3, e4, e5, e6⟩ := DV_sl (opd_ok hx hvx R fun s h => hs s (by simp [h]))
            obtain ⟨us, q1, q2, ⟨ad, cap2, q5⟩, q4⟩ := h3 R (fun j e => hto j (hl2.t j (h6 j e))) (opd_ok hy hvy R fun s h => hs s (by simp [h])) hux
            obtain ⟨vs, e7, p1, p2, F, g', H'⟩ := write_hold g (R.ob id _ (hto id hw2.tchd) hob) e1 e2 b2 g1 g3 q2 q4 hmk
            have hst := run_storeCells_cells (P := P) (γ.β id st).1 (off - (γ.β id st).2) us 0 w (fun j hj => by
              have : off - (γ.β id st).2 + j < vs.size := by omega
              simp [World.cell?, p1, this]) (fun j hj => by simp [World.frozen?, p1]) q4
            simp only [Nat.add_zero] at hst
            refine ⟨_, ?_, F.mono (fun j e => by rw [e]; exact hw2), g', others_hold R g F fun _ => H'⟩
            obtain ⟨cst, hb⟩ := run_builtin (P := P) ho a w
            rw [hb]
            have hl := q1.len w
            have hc := q1.cells
            have hmin : Nat.min n len = n := by show min n len = n; omega
            simp [builtin, Builtin.copy_, run_underlying hu, e3, hl, hmin, run_sizeOf' hz, hc, hst, goInt]
          cases dst with
          | none =>
            obtain ⟨lg2, rfl, h7, h8⟩ := objK_eq g2
            exact OpOk.skip hd (h5.trans h7) ((Keeps.refl _ _).set h8 _) fun V hs hto ro γ a w g R => by
              obtain ⟨w', k1, k2⟩ := run hs hto h7 h8 ro γ a w g R
              exact ⟨w', .inr ⟨_, k1⟩, k2⟩
          | some d =>
            obtain ⟨lg2, rfl, h7, h8⟩ := objOutK_eq g2
            exact OpOk.value hd (hlt d rfl) (h5.trans h7) (Nat.le_refl _) ((Keeps.refl _ _).set h8 _) fun V hs hto ro γ a w g R => by
              obtain ⟨w', k1, k2, k3, k4⟩ := run hs hto h7 h8 ro γ a w g R
              exact ⟨_, w', γ, k1, k2, k3, DV_of_i _ _, k4, R.nx⟩
        cases hb2 : Nat.beq (Nat.succ st) cur with
        | true =>
          rw [hb2] at h4
          exact key _ (.inl ⟨rfl, Nat.eq_of_beq_eq_true hb2⟩) h4
        | false =>
          rw [hb2] at h4
          exact key _ (.inr rfl) h4
      · cases h4
  · cases h
end
end Go.Ev