import Derived.Test.YtihlllachfonoaaGreatDoorEvL
set_option linter.all false
namespace Go.Ev
open Go.RowKit (Below)

section
variable {P : Program} {V : Sel} {γ : Gh} {a : Act} {w : World} {sl : T D} {ob : T C} {nx : Pos} {lg : Option (T Bool)} {nt : Nat} {o : Oper} {ro : Option Nat}

/-- append: what has grown, at a new stamp: in a new block. -/
theorem append_grow {id : Pos} {cs : List Cell} {cur st off n m : Nat} {ds : List D} {us : List Value} (g : G ro γ a w) (H : HoldsO P γ w id (.cells false cs cur)) (hst : st < γ.cur id) (hd : (γ.β id st).2 ≤ off) (hoff : n = off + m) (hn : n ≤ cs.length) (hop : OpenTo st (cs.take n))
    (hds : DVL γ w ds us) (h1 : ∀ u ∈ us, u.oneCell' = true) :
    ∃ olds : List Value, olds.length = m ∧ w.rangeAt (γ.β id st).1 (off - (γ.β id st).2) olds ∧ ∀ (el : TypeId) (rest : Array Value),
      ∃ γ', γ' = γ.push id (w.heap.size, off) ∧ Fr (fun j => j = id) γ γ' w (w.drew.alloc (.cells ((olds ++ us).toArray ++ rest) el)) ∧ (∀ a' : Act, a'.defers = a.defers → G ro γ' a' (w.drew.alloc (.cells ((olds ++ us).toArray ++ rest) el))) ∧
        HoldsO P γ' (w.drew.alloc (.cells ((olds ++ us).toArray ++ rest) el)) id (.cells false (cs.take n ++ (ds.map (fun d => .o d cur) ++ (cs.drop (n + ds.length)).map (shutC (cur - 1)))) (cur + 1)) := by
  subst hoff
  have opn : ∀ p c, p < off + m → cs[p]? = some c → c.has st = true ∧ ∃ d lo, c = .o d lo := by
    intro p c hp hc
    obtain ⟨d, lo, rfl, hlo⟩ := hop c (by
      rw [List.mem_iff_getElem?]
      exact ⟨p, by rw [List.getElem?_take_of_lt hp]; exact hc⟩)
    exact ⟨Nat.ble_eq_true_of_le hlo, d, lo, rfl⟩
  obtain ⟨olds, k1, k2, k3, k4⟩ := cells_at (ds := ((cs.drop off).take m).map Cell.d) H hst hd (n := m) (by simp; omega) (fun i d hi => by
    rw [List.getElem?_map] at hi
    cases hc : ((cs.drop off).take m)[i]? with
    | none => rw [hc] at hi; cases hi
    | some c =>
      rw [hc] at hi
      cases hi
      have him : i < m := by have := (List.getElem?_eq_some_iff.1 hc).1; simp at this; omega
      rw [List.getElem?_take_of_lt him] at hc
      have hc' := hc
      rw [List.getElem?_drop] at hc'
      exact ⟨c, hc, (opn (off + i) c (by omega) hc').1, rfl⟩)
  refine ⟨olds, k1, k2, fun el rest => ?_⟩
  obtain ⟨h2, h3, h4⟩ := H
  have hlen : us.length = ds.length := (DVL_iff.1 hds).1.symm
  obtain ⟨F, g'⟩ := grow_new g id off (.cells ((olds ++ us).toArray ++ rest) el) (fun vs e fr h => by cases h; rfl)
  refine ⟨_, rfl, F, g', by omega, by rw [γ.push_cur, h3], fun s hs => ?_⟩
  have hat : ∀ p : Nat, (cs.take (off + m) ++ (ds.map (fun d => Cell.o d cur) ++ (cs.drop (off + m + ds.length)).map (shutC (cur - 1))))[p]? = if p < off + m then cs[p]? else if p < off + m + ds.length then (ds[p - (off + m)]?).map (fun d => Cell.o d cur) else (cs[p]?).map (shutC (cur - 1)) := by
    intro p
    by_cases hp : p < off + m
    · rw [if_pos hp, List.getElem?_append_left (by simp; omega), List.getElem?_take_of_lt hp]
    · rw [if_neg hp, List.getElem?_append_right (by simp; omega)]
      have hl : (cs.take (off + m)).length = off + m := by simp; omega
      rw [hl]
      by_cases hp2 : p < off + m + ds.length
      · rw [if_pos hp2, List.getElem?_append_left (by simp; omega), List.getElem?_map]
      · rw [if_neg hp2, List.getElem?_append_right (by simp; omega), List.getElem?_map, List.getElem?_drop]
        congr 2; simp; omega
  rcases Nat.lt_succ_iff_lt_or_eq.1 hs with hs | hs
  · have hs' : s < γ.cur id := by omega
    rw [γ.push_β_old id _ hs']
    obtain ⟨vs2, e2, fr2, q1, q2, q3⟩ := h4 s hs
    refine ⟨vs2, e2, fr2, ?_, q2, fun p c hp hh hdp => ?_⟩
    · rw [heap_alloc_lt w.drew _ (g.ob id s hs')]; exact q1
    · rw [hat] at hp
      by_cases hp1 : p < off + m
      · rw [if_pos hp1] at hp
        obtain ⟨u, r1, r2, r3⟩ := q3 p c hp hh hdp
        exact ⟨u, r1, DV.mono F.up _ _ r2, r3⟩
      · rw [if_neg hp1] at hp
        by_cases hp2 : p < off + m + ds.length
        · rw [if_pos hp2] at hp
          cases hd2 : ds[p - (off + m)]? with
          | none => rw [hd2] at hp; cases hp
          | some d =>
            rw [hd2] at hp
            cases hp
            have := Nat.le_of_ble_eq_true hh
            omega
        · rw [if_neg hp2] at hp
          cases hc : cs[p]? with
          | none => rw [hc] at hp; cases hp
          | some c0 =>
            rw [hc] at hp
            cases hp
            rw [shutC_d]
            obtain ⟨u, r1, r2, r3⟩ := q3 p c0 hc (shutC_has hh).1 hdp
            exact ⟨u, r1, DV.mono F.up _ _ r2, r3⟩
  · obtain rfl : s = γ.cur id := by omega
    rw [γ.push_β]
    refine ⟨_, el, (0, 0), heap_alloc_self w.drew _, fun _ => rfl, fun p c hp hh hdp => ?_⟩
    simp only at hdp
    rw [hat] at hp
    by_cases hp1 : p < off + m
    · rw [if_pos hp1] at hp
      have hlt : p - off < olds.length := by omega
      have hcd : (((cs.drop off).take m).map Cell.d)[p - off]? = some c.d := by
        rw [List.getElem?_map, List.getElem?_take_of_lt (by omega), List.getElem?_drop, show off + (p - off) = p by omega, hp]; rfl
      refine ⟨olds[p - off], ?_, DV.mono F.up _ _ ((DVL_iff.1 k3).2 _ _ _ hcd (List.getElem?_eq_getElem hlt)), k4 _ (List.getElem_mem _)⟩
      simp only
      rw [Array.getElem?_append_left (by simp; omega)]
      simp only [List.getElem?_toArray]
      rw [List.getElem?_append_left hlt]
      exact List.getElem?_eq_getElem hlt
    · rw [if_neg hp1] at hp
      by_cases hp2 : p < off + m + ds.length
      · rw [if_pos hp2] at hp
        cases hd2 : ds[p - (off + m)]? with
        | none => rw [hd2] at hp; cases hp
        | some d =>
          rw [hd2] at hp
          cases hp
          have hlt : p - (off + m) < us.length := by have := (List.getElem?_eq_some_iff.1 hd2).1; omega
          refine ⟨us[p - (off + m)], ?_, DV.mono F.up _ _ ((DVL_iff.1 hds).2 _ d _ hd2 (List.getElem?_eq_getElem hlt)), h1 _ (List.getElem_mem _)⟩
          simp only
          rw [Array.getElem?_append_left (by simp; omega)]
          simp only [List.getElem?_toArray]
          rw [List.getElem?_append_right (by omega), k1, show p - off - m = p - (off + m) by omega]
          exact List.getElem?_eq_getElem hlt
      · rw [if_neg hp2] at hp
        cases hc : cs[p]? with
        | none => rw [hc] at hp; cases hp
        | some c0 =>
          rw [hc] at hp
          cases hp
          have := (shutC_has hh).2
          omega

theorem cap_ok {args : Array Operand} {tys : Array TypeId} {t el : TypeId} {x : Operand} {d : Pos} {r : RX} {Z : X} (ho : o.op = .call { callee := .builtin .cap, args := args, argTypes := tys }) (ha : args.toList = [x]) (ht : tys.toList = [t]) (hd : o.dst = some d.ix) (hlt : d.ix < nt) (hx : rx x = some r) (hu : P.underlying t = some (.slice el))
    (h : s_cap d r sl ob nx lg = some Z) : OpOk P nt o r.ss ⟨sl, ob, nx, lg⟩ Z := by
  have hargs : args = #[x] := by rw [← Array.toArray_toList (xs := args), ha]
  have htys : tys = #[t] := by rw [← Array.toArray_toList (xs := tys), ht]
  subst hargs
  subst htys
  unfold s_cap at h
  split at h <;> first | (cases h; done) | skip
  rename_i hv
  rw [outK_eq h]
  refine OpOk.pure hd hlt (LgLe.refl _) fun V hs _ γ a w R => ⟨_, ?_, DV_of_i _ _⟩
  have := opd_ok hx hv R hs
  unfold DV at this
  simp [execOp, ho, resolve, invoke, builtin, this, Builtin.cap_, goInt, run_underlying hu]
theorem run_append_zeros (w : World) (t tx ty e : TypeId) (k : IntKind) (i : TypeInfo) (z : Value) (ht : P.underlying t = some (.slice e)) (hk : P.underlying tx = some (.int k)) (hi : P.info? e = some i) (hz : i.zero = some z) (n : Nat) (h1 : 0 < n) (hn : n ≤ 65536) (hb : i.bytes ≤ 65536) (hs : z.cells.size = i.size) :
    (Builtin.append_ #[t, tx] ty #[.slice none 0 0, .int .i64 (n : Int)]).run P w =
      .ok (.slice (some ⟨w.heap.size, 0, none⟩) n (grownCap w n 0 e)) (w.drew.alloc (.cells (Builtin.zeroCells z.cells n ++ Builtin.zeroCells z.cells (grownCap w n 0 e - n)) e)) := by
  have w1 : IntKind.i64.wrap (n : Int) = (n : Int) := IntWalk.i64_in _ (by omega)
  have hneg : ¬ ((n : Int) < 0) := by omega
  have hle : n * i.bytes ≤ 65536 * 65536 := Nat.mul_le_mul hn hb
  have hby : ¬ ((281474976710656 : Int) < (n : Int) * (i.bytes : Int)) := by
    have : ((n * i.bytes : Nat) : Int) = (n : Int) * (i.bytes : Int) := by simp
    omega
  have hne : ¬ (n ≤ 0) := by omega
  have h0 : ¬ (n = 0) := by omega
  have h63 : ¬ ((9223372036854775807 : Int) < (n : Int)) := by omega
  have h48 : ¬ (281474976710656 < Builtin.nextslicecap n 0 * i.bytes) := by
    have := growslice_fits (need := n) (old := 0) (bytes := i.bytes) (by omega) (by omega)
    omega
  by_cases hzero : n * i.size = 0
  · have hzz : Builtin.zeroCells z.cells n = #[] := by
      apply Array.eq_empty_of_size_eq_zero
      rw [zeroCells_size, hs, hzero]
    have h00 : i.size = 0 := by rcases Nat.mul_eq_zero.1 hzero with h | h <;> omega
    simp [Builtin.append_, run_underlying ht, run_underlying hk, sizeOf, typeInfo, zeroValue, hi, hz, asInt, asIntOf, w1, hneg, hby, hne, h0, h63, h48, Question.forced, Builtin.firstCells, newRow, grownCap, hzz, h00]
  · have hs0 : ¬ (i.size = 0) := fun e => hzero (by rw [e]; simp)
    simp [Builtin.append_, run_underlying ht, run_underlying hk, sizeOf, typeInfo, zeroValue, hi, hz, asInt, asIntOf, w1, hneg, hby, hne, h0, h63, h48, Question.forced, Builtin.firstCells, newRow, grownCap, hs0]
    exact fun e => absurd e hzero
theorem apn_ok {args : Array Operand} {tys : Array TypeId} {t tx el : TypeId} {k : IntKind} {x y : Operand} {i : TypeInfo} {z : Nat} {zs : List D} {d : Pos} {r1 r2 : RX} {Z : X} (ho : o.op = .call { callee := .builtin .append, args := args, argTypes := tys }) (ha : args.toList = [x, y]) (hty : tys.toList = [t, tx]) (hd : o.dst = some d.ix) (hlt : d.ix < nt)
    (hx : rx x = some r1) (hy : rx y = some r2) (hu : P.underlying t = some (.slice el)) (hs : szOf P el = some z) (hux : P.underlying tx = some (.int k)) (hz : zeroD P el = some zs) (hi : P.info? el = some i) (hzl : zs.length = z) (hby : i.bytes ≤ 65536)
    (h : s_apn d z zs r1 r2 sl ob nx lg = some Z) : OpOk P nt o (r1.ss ++ r2.ss) ⟨sl, ob, nx, lg⟩ Z := by
  have hargs : args = #[x, y] := by rw [← Array.toArray_toList (xs := args), ha]
  have htys : tys = #[t, tx] := by rw [← Array.toArray_toList (xs := tys), hty]
  subst htys
  have hsz : i.size = z := by
    unfold szOf at hs
    rw [hi] at hs
    cases hs; rfl
  obtain ⟨zv, hzv, hcd⟩ : ∃ zv, i.zero = some zv ∧ constDs zv.cells.toList = some zs := by
    unfold zeroD at hz
    rw [hi] at hz
    simp only at hz
    split at hz
    · rename_i zv hzv
      exact ⟨zv, hzv, hz⟩
    · cases hz
  have z2 : ∀ γ w, DVL γ w zs zv.cells.toList := fun γ w => (constDs_ok hcd).1
  have z3 : ∀ u ∈ zv.cells.toList, u.oneCell' = true := (constDs_ok (γ := ⟨fun _ => 0, fun _ _ => (0, 0), fun _ => False⟩) (w := default) hcd).2
  have zsz : zv.cells.size = z := by
    have := (DVL_iff.1 (z2 ⟨fun _ => 0, fun _ _ => (0, 0), fun _ => False⟩ default)).1
    rw [hzl] at this
    simpa using this.symm
  unfold s_apn at h
  split at h
  · rename_i m hvx hvy
    cases hb : (Nat.blt 0 m && Nat.ble m 65536) with
    | false => rw [hb] at h; cases h
    | true =>
      rw [hb] at h
      simp only [cond_true] at h
      rw [repK_eq] at h
      rw [Bool.and_eq_true] at hb
      have e1 : 0 < m := Nat.le_of_ble_eq_true hb.1
      have e2 := Nat.le_of_ble_eq_true hb.2
      obtain ⟨lg2, rfl, h7, h8⟩ := freshK_eq h
      refine OpOk.value hd hlt h7 (by rw [Pos.succ_nat]; omega) ((Keeps.refl _ _).set h8 _) fun V hss hto ro γ a w g R => ?_
      have hv1 := opd_ok hx hvx R fun s h => hss s (by simp [h])
      unfold DV at hv1
      have hv2 := DV_i (opd_ok hy hvy R fun s h => hss s (by simp [h]))
      have hso : V.so nx := hto nx h8.tchd
      have hinit : DVL γ w (reps zs m) (Builtin.zeroCells zv.cells m).toList ∧ ∀ u ∈ (Builtin.zeroCells zv.cells m).toList, u.oneCell' = true := by
        unfold Builtin.zeroCells
        exact zeros_ok (z2 γ w) z3 (by rw [hzl, zsz])
      have hge := grownCap_ge w m 0 el
      obtain ⟨γ', F, g', hv, hoth, hnx⟩ := fresh_rows (P := P) (ds := reps zs m) (us := (Builtin.zeroCells zv.cells m).toList) (el := el) (k := m) (cap := grownCap w m 0 el) (z := z) g R hso (R.nx nx hso (Nat.le_refl _)) hinit.1 hinit.2 (by simp [zeroCells_size, zsz]) hge (rest := Builtin.zeroCells zv.cells (grownCap w m 0 el - m)) (by rw [zeroCells_size, zsz])
      have hr := run_append_zeros (P := P) w t tx o.type el k i zv hu hux hi hzv m e1 e2 hby (by rw [zsz, hsz])
      refine ⟨_, _, γ', run_append ho hargs (by rw [hv1, hv2]; exact hr), F.mono (fun j e => by rw [e]; exact h8), ?_, ?_, ?_, hnx⟩
      · simpa using g'
      · simpa using hv
      · simpa using hoth
  · cases h
theorem app_ok {args : Array Operand} {tys : Array TypeId} {t tx el e' : TypeId} {x y : Operand} {i : TypeInfo} {z : Nat} {zs : List D} {d : Pos} {r1 r2 : RX} {Z : X} (ho : o.op = .call { callee := .builtin .append, args := args, argTypes := tys }) (ha : args.toList = [x, y]) (hty : tys.toList = [t, tx]) (hd : o.dst = some d.ix) (hlt : d.ix < nt)
    (hx : rx x = some r1) (hy : rx y = some r2) (hu : P.underlying t = some (.slice el)) (hs : szOf P el = some z) (hux : P.underlying tx = some (.slice e')) (hz : zeroD P el = some zs) (hi : P.info? el = some i) (hzl : zs.length = z) (hby : i.bytes ≤ 65536)
    (h : s_app d z r1 r2 sl ob nx lg = some Z) : OpOk P nt o (r1.ss ++ r2.ss) ⟨sl, ob, nx, lg⟩ Z := by
  have hargs : args = #[x, y] := by rw [← Array.toArray_toList (xs := args), ha]
  have htys : tys = #[t, tx] := by rw [← Array.toArray_toList (xs := tys), hty]
  subst htys
  have hsz : i.size = z := by
    unfold szOf at hs
    rw [hi] at hs
    cases hs; rfl
  obtain ⟨zv, hzv, zsz⟩ : ∃ zv, i.zero = some zv ∧ zv.cells.size = z := by
    unfold zeroD at hz
    rw [hi] at hz
    simp only at hz
    split at hz
    · rename_i zv hzv
      refine ⟨zv, hzv, ?_⟩
      have := (DVL_iff.1 (constDs_ok (γ := ⟨fun _ => 0, fun _ _ => (0, 0), fun _ => False⟩) (w := default) hz).1).1
      rw [hzl] at this
      simpa using this.symm
    · cases hz
  unfold s_app at h
  split at h
  · rename_i dx dy hvx hvy
    obtain ⟨idy, n, ds, h1, h2, h3⟩ := srcK_ok (P := P) (sl := sl) (nx := nx) (lg := lg) h
    obtain ⟨lg1, h4, h5, h6⟩ := logO_ok h1
    cases n with
    | zero =>
      simp only [Nat.zero_mul, List.length_eq_zero_iff] at h2
      subst h2
      -- nothing is appended: the slice as it is
      have keep : ∀ {V : Sel} {γ : Gh} {a : Act} {w : World}, Rep P V γ a w ⟨sl, ob, nx, lg⟩ → (∀ s, s ∈ r1.ss ++ r2.ss → V.ss s) → (∀ j, idy = some j → V.so j) → ∀ (ad : Option Addr) (len cap : Nat), a.eval x = .slice ad len cap → len ≤ cap → (ad = none → len = 0) →
          (∀ b off, ad = some ⟨b, off, none⟩ → True) → (execOp a.eval o).run P w = .ok (.value (.slice ad len cap)) w := by
        intro V γ a w R hss hj ad len cap e hle _ _
        obtain ⟨us, q1, q2, q3, q4⟩ := h3 R hj (opd_ok hy hvy R fun s h => hss s (by simp [h])) hux
        have hus : us = [] := by
          have := (DVL_iff.1 q2).1
          exact List.length_eq_zero_iff.1 this.symm
        subst hus
        refine run_append ho hargs ?_
        rw [e]
        have hc := q1.cells
        have hl := q1.len
        cases ad with
        | none => simp [Builtin.append_, run_underlying hu, run_underlying hux, sizeOf, typeInfo, hi, hsz, hl, hc, hle]
        | some ad => simp [Builtin.append_, run_underlying hu, run_underlying hux, sizeOf, typeInfo, hi, hsz, hl, hc, hle, storeCells]
      simp only at h4
      split at h4 <;> first | (cases h4; done) | skip
      · rw [outK_eq h4]
        refine OpOk.pure hd hlt h5 fun V hss hto γ a w R => ?_
        have hv := opd_ok hx hvx R fun s h => hss s (by simp [h])
        unfold DV at hv
        exact ⟨_, keep R hss (fun j e => hto j (h6 j e)) none 0 0 hv (Nat.le_refl _) (fun _ => rfl) (fun _ _ _ => trivial), by unfold DV; rfl⟩
      · rw [outK_eq h4]
        refine OpOk.pure hd hlt h5 fun V hss hto γ a w R => ?_
        have hv := opd_ok hx hvx R fun s h => hss s (by simp [h])
        unfold DV at hv
        obtain ⟨ad, hv⟩ := hv
        exact ⟨_, keep R hss (fun j e => hto j (h6 j e)) _ 0 0 hv (Nat.le_refl _) (fun _ => rfl) (fun _ _ _ => trivial), by unfold DV; exact ⟨ad, rfl⟩⟩
      · rename_i id off len st z'
        cases hb : Nat.beq z z' with
        | false => rw [hb] at h4; cases h4
        | true =>
          rw [hb] at h4
          simp only [cond_true] at h4
          split at h4
          · obtain ⟨lg2, h7, h8, _⟩ := logR_ok h4
            rw [outK_eq h7]
            refine OpOk.pure hd hlt (h5.trans h8) fun V hss hto γ a w R => ?_
            have hv := opd_ok hx hvx R fun s h => hss s (by simp [h])
            obtain ⟨_, _, cap, _, _, e, hle, _⟩ := DV_sl hv
            refine ⟨_, keep R hss (fun j e => hto j (h8.t j (h6 j e))) _ len cap e hle (fun e => by cases e) (fun _ _ _ => trivial), ?_⟩
            rw [← e]; exact hv
          · cases h4
    | succ k' =>
      -- onto nothing: a new block
      have fresh : ∀ {Z : X}, (bif Nat.ble (Nat.succ k') 2147483648 then openK ds fun cs => freshK sl ob nx lg1 (.cells false cs 1) d (.sl nx 0 (Nat.succ k') 0 z) else none) = some Z → (∀ {V : Sel} {γ : Gh} {a : Act} {w : World}, Rep P V γ a w ⟨sl, ob, nx, lg⟩ → (∀ s, s ∈ r1.ss ++ r2.ss → V.ss s) → ∃ ad, a.eval x = .slice ad 0 0) → OpOk P nt o (r1.ss ++ r2.ss) ⟨sl, ob, nx, lg⟩ Z := by
        intro Z h hbase
        cases hb : Nat.ble (Nat.succ k') 2147483648 with
        | false => rw [hb] at h; cases h
        | true =>
          rw [hb] at h
          simp only [cond_true] at h
          have hk := Nat.le_of_ble_eq_true hb
          rw [openK_eq] at h
          obtain ⟨lg2, rfl, h7, h8⟩ := freshK_eq h
          refine OpOk.value hd hlt (h5.trans h7) (by rw [Pos.succ_nat]; omega) ((Keeps.refl _ _).set h8 _) fun V hss hto ro γ a w g R => ?_
          obtain ⟨ad, e⟩ := hbase R hss
          obtain ⟨us, q1, q2, q3, q4⟩ := h3 R (fun j e => hto j (h7.t j (h6 j e))) (opd_ok hy hvy R fun s h => hss s (by simp [h])) hux
          have hul : us.length = (k' + 1) * z := by rw [← (DVL_iff.1 q2).1, h2]
          have hfc : (Builtin.firstCells i.size 0 (.slice ad 0 0)).run P w.drew = .ok ([] : List Value).toArray w.drew := by
            cases ad with
            | none => exact run_firstCells_none (P := P) w.drew i.size 0 0 0
            | some ad => exact run_firstCells_some (P := P) w.drew i.size 0 ad 0 0 [] (by simp) (fun j u hu => by simp at hu)
          have hprod : (k' + 1) * i.bytes ≤ 2147483648 * 65536 := Nat.mul_le_mul hk hby
          have hr := run_append_grow_src (P := P) w t tx o.type el i zv hu hi hzv ad 0 0 [] hfc (a.eval y) (k' + 1) us (by rw [hsz]; exact q1) (by omega) (by omega)
            (growslice_fits (by omega) (by rw [Nat.zero_add]; omega))
          simp only [List.nil_append, Nat.zero_add] at hr
          have hge := grownCap_ge w (k' + 1) 0 el
          have hso : V.so nx := hto nx h8.tchd
          obtain ⟨γ', F, g', hv, hoth, hnx⟩ := fresh_rows (P := P) (ds := ds) (us := us) (el := el) (k := k' + 1) (cap := grownCap w (k' + 1) 0 el) (z := z) g R hso (R.nx nx hso (Nat.le_refl _)) q2 q4 hul hge (rest := Builtin.zeroCells zv.cells (grownCap w (k' + 1) 0 el - (k' + 1))) (by rw [zeroCells_size, zsz])
          exact ⟨_, _, γ', run_append ho hargs (by rw [e]; exact hr), F.mono (fun j e => by rw [e]; exact h8), g', hv, hoth, hnx⟩
      simp only at h4
      split at h4 <;> first | (cases h4; done) | skip
      · exact fresh h4 fun {V γ a w} R hss => by
          have hv := opd_ok hx hvx R fun s h => hss s (by simp [h])
          unfold DV at hv
          exact ⟨none, hv⟩
      · exact fresh h4 fun {V γ a w} R hss => by
          have hv := opd_ok hx hvx R fun s h => hss s (by simp [h])
          unfold DV at hv
          obtain ⟨ad, hv⟩ := hv
          exact ⟨_, hv⟩
      · rename_i id off len st z'
        cases hb : (Nat.beq z z' && Nat.ble (Nat.add len (Nat.succ k')) 2147483648) with
        | false => rw [hb] at h4; cases h4
        | true =>
          rw [hb] at h4
          simp only [cond_true] at h4
          rw [Bool.and_eq_true] at hb
          obtain rfl := Nat.eq_of_beq_eq_true hb.1
          have hk : len + (k' + 1) ≤ 2147483648 := Nat.le_of_ble_eq_true hb.2
          split at h4
          · rename_i cs cur hob
            obtain ⟨g1, g2, g3⟩ := growK_ok h4
            simp only [natK_eq] at g3
            obtain ⟨lg2, rfl, h7, h8⟩ := objOutK_eq g3
            refine OpOk.value hd hlt (h5.trans h7) (Nat.le_refl _) ((Keeps.refl _ _).set h8 _) fun V hss hto ro γ a w g R => ?_
            have hso : V.so id := hto id h8.tchd
            have H := R.ob id _ hso hob
            have hv := opd_ok hx hvx R fun s h => hss s (by simp [h])
            obtain ⟨e1, e2, cap, e, n, e3, e4, e5, e6⟩ := DV_sl hv
            obtain ⟨us, q1, q2, q3, q4⟩ := h3 R (fun j e => hto j (h7.t j (h6 j e))) (opd_ok hy hvy R fun s h => hss s (by simp [h])) hux
            have hul : us.length = (k' + 1) * z := by rw [← (DVL_iff.1 q2).1, h2]
            have hcur : cur = γ.cur id := H.2.1.symm
            have hn' : Nat.add off (Nat.mul len z) = off + len * z := rfl
            rw [hn'] at g1 g2 g3
            have hprod : (len + (k' + 1)) * i.bytes ≤ 2147483648 * 65536 := Nat.mul_le_mul hk hby
            have hnxR : ∀ γ' : Gh, γ'.cur = (γ.push id (0, 0)).cur → ∀ j, V.so j → nx.nat ≤ j.nat → γ'.cur j = 0 := by
              intro γ' hc j hj hle
              have hne : j ≠ id := by
                rintro rfl
                have := R.nx j hj hle
                omega
              rw [hc, γ.push_cur_ne _ hne]
              exact R.nx j hj hle
            by_cases hroom : len + (k' + 1) ≤ cap
            · -- there is room
              have hmul : len * z + (k' + 1) * z ≤ cap * z := by rw [← Nat.add_mul]; exact Nat.mul_le_mul_right _ hroom
              obtain ⟨γ', rfl, F, g', H', hc1, hc2⟩ := append_room (n := off + len * z) g H e1 (by omega) g1 g2 q2 q4 e5 (by rw [hul]; omega)
              have hoo : off + len * z - (γ.β id st).2 = off - (γ.β id st).2 + len * z := by omega
              rw [hoo] at F g' H' hc1 hc2
              have hr := run_append_room_src (P := P) w t tx o.type el i hu hi (γ.β id st).1 (off - (γ.β id st).2) len cap (a.eval y) (k' + 1) us (by rw [hsz]; exact q1) hroom (by rw [hsz]; exact hc1) (by rw [hsz]; exact hc2)
              rw [hsz] at hr
              refine ⟨_, _, _, run_append ho hargs (by rw [e3]; exact hr), F.mono (fun j e => by rw [e]; exact h8), g', ?_, others_hold R g F fun _ => H', hnxR _ rfl⟩
              unfold DV
              rw [hcur, γ.push_β, γ.push_cur]
              exact ⟨Nat.lt_succ_self _, e2, cap, e, n, rfl, hroom, F.up.sh _ _ e5, e6⟩
            · -- a new block
              obtain ⟨olds, k1, k2, k3⟩ := append_grow (m := len * z) g H e1 e2 rfl g1 g2 q2 q4
              have hfc : (Builtin.firstCells i.size len (.slice (some ⟨(γ.β id st).1, off - (γ.β id st).2, none⟩) len cap)).run P w.drew = .ok olds.toArray w.drew :=
                run_firstCells_some (P := P) w.drew i.size len _ len cap olds (by rw [k1, hsz]) (fun j u hu => by
                  rw [Addr.add_mid]; exact k2 j u hu)
              have hr := run_append_grow_src (P := P) w t tx o.type el i zv hu hi hzv (some ⟨(γ.β id st).1, off - (γ.β id st).2, none⟩) len cap olds hfc (a.eval y) (k' + 1) us (by rw [hsz]; exact q1) (by omega) (by omega)
                (growslice_fits (by omega) (by omega))
              have hge := grownCap_ge w (len + (k' + 1)) cap el
              obtain ⟨γ', rfl, F, g', H'⟩ := k3 el (Builtin.zeroCells zv.cells (grownCap w (len + (k' + 1)) cap el - (len + (k' + 1))))
              refine ⟨_, _, _, run_append ho hargs (by rw [e3]; exact hr), F.mono (fun j e => by rw [e]; exact h8), g', ?_, others_hold R g F fun _ => H', hnxR _ rfl⟩
              unfold DV
              rw [hcur, γ.push_β, γ.push_cur]
              refine ⟨Nat.lt_succ_self _, Nat.le_refl _, grownCap w (len + (k' + 1)) cap el, el, _, ?_, hge, shape_cells (heap_alloc_self w.drew _), ?_⟩
              · show _ = Value.slice (some ⟨w.heap.size, off - off, none⟩) (len + (k' + 1)) _
                rw [Nat.sub_self]
              · simp only [Array.size_append, List.size_toArray, List.length_append, k1, hul, zeroCells_size, zsz, Nat.sub_self, Nat.zero_add]
                rw [← Nat.add_mul, ← Nat.add_mul]
                exact Nat.mul_le_mul_right _ (by omega)
          · cases h4
  · cases h
end
end Go.Ev
