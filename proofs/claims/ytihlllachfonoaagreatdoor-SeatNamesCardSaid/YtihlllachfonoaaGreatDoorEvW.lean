import Derived.Test.YtihlllachfonoaaGreatDoorEvV
set_option linter.all false
namespace Go.Ev
open Go.RowKit (Below)

section
variable {P : Program} {FP : T RF} {ex : RC → X → Option (Ex × X)} {sl : T D} {ob : T C} {nx : Pos} {lg : Option (T Bool)} {nt : Nat} {o : Oper}

/-- What a call hands back goes into its slot, if it has one. -/
theorem dst_fin {V : Sel} {ro : Option Nat} {lg' : Option (T Bool)} {γ γ' : Gh} {a : Act} {w w' : World} {ob' : T C} {nx' : Pos} {dst : Option Pos} {v : D} {u : Value} {Z : X} (hd : o.dst = dst.map Pos.ix) (hlt : ∀ d, dst = some d → d.ix < a.tmps.size) (R : Rep P V γ a w ⟨sl, ob, nx, lg⟩)
    (hz : dstK sl ob' nx' lg' dst v = some Z) (F : Fr (wrtn lg') γ γ' w w') (g' : ∀ a' : Act, a'.defers = a.defers → G ro γ' a' w') (hv : DV γ' w' v u)
    (ho : ∀ id c, V.so id → ob'.get id = some c → HoldsO P γ' w' id c) (hn : ∀ id, V.so id → nx'.nat ≤ id.nat → γ'.cur id = 0) :
    Z.lg = lg' ∧ Z.nx = nx' ∧ St ro lg' o.dst γ a w γ' (a.put o.dst u) w' ∧ Rep P V γ' (a.put o.dst u) w' Z := by
  cases dst with
  | some d =>
    obtain rfl := outK_eq hz
    obtain ⟨s1, r1⟩ := St.value (P := P) (sl := sl) (ob := ob) (nx := nx) (lg := lg) (o := o) (hlt d rfl) hd R F g' hv ho hn
    exact ⟨rfl, rfl, s1, r1⟩
  | none =>
    cases hz
    have hd : o.dst = none := hd
    rw [hd]
    exact ⟨rfl, rfl, ⟨g' _ rfl, F, rfl, rfl, fun s _ => rfl⟩, ⟨fun s e hss he => ⟨(R.sl s e hss he).1, DV.mono F.up _ _ (R.sl s e hss he).2⟩, ho, hn, R.gl.up F.up⟩⟩
theorem dstK_lg {ob' : T C} {nx' : Pos} {lg' : Option (T Bool)} {dst : Option Pos} {v : D} {Z : X} (hz : dstK sl ob' nx' lg' dst v = some Z) : Z.lg = lg' ∧ Z.nx = nx' ∧ Z.ob = ob' ∧ ∀ s : Pos, dst.map Pos.ix ≠ some s.ix → Z.sl.get s = sl.get s := by
  cases dst with
  | some d => obtain rfl := outK_eq hz; exact ⟨rfl, rfl, rfl, fun s hs => T.get_set_ne (fun e => hs (by rw [e]; rfl)) _ _⟩
  | none => cases hz; exact ⟨rfl, rfl, rfl, fun _ _ => rfl⟩

theorem call_op {names : List Pos} {dst : Option Pos} {f : FuncId} {ds : List D} {v : D} {ob' : T C} {nx' : Pos} {lg' : Option (T Bool)} {Z : X} (hd : o.dst = dst.map Pos.ix) (hlt : ∀ d, dst = some d → d.ix < nt) (hz : dstK sl ob' nx' lg' dst v = some Z) (C : CallOk P f ds ob nx lg v ob' nx' lg')
    (hrun : ∀ {V : Sel} {γ : Gh} {a : Act} {w : World}, Rep P V γ a w ⟨sl, ob, nx, lg⟩ → (∀ s, s ∈ names → V.ss s) → ∃ args : Array Value, DVL γ w ds args.toList ∧ ((callFunc f args).run P w = .ok (.enter f args) w → (execOp a.eval o).run P w = .ok (.enter f args) w)) :
    OpOk P nt o names ⟨sl, ob, nx, lg⟩ Z := by
  obtain ⟨h1, h2, h3, h4⟩ := dstK_lg hz
  refine ⟨h1.symm ▸ C.hl, h2.symm ▸ C.hx, by rw [h1, h3]; exact C.hk, fun s hs => h4 s (by rw [← hd]; exact hs), fun V hs hto ro γ a w hn g R n K Q hK => ?_⟩
  rw [h1] at hto hK
  obtain ⟨args, hargs, hr⟩ := hrun R hs
  obtain ⟨hc, hcalls⟩ := C.ok V.so hto γ args w g.gh hargs R.ob R.nx
  refine wpIn_of (hr (hc w)) (fun _ h => by cases h) ?_
  rw [Oper.uponIn_enter]
  refine ⟨(fun h => by cases h), hcalls ro (n - 1) _ fun γ' w' u gh' F hv ho hn' => ?_⟩
  obtain ⟨_, _, s1, r1⟩ := dst_fin (ro := ro) (a := a) hd (fun d e => by rw [hn]; exact hlt d e) R hz F (fun a' ha => g.of F ha gh'.ob gh'.inj gh'.im) hv ho hn'
  exact hK γ' _ w' s1 r1

theorem rnd_op {names : List Pos} {dst : Option Pos} {id : Pos} {ds : List D} {v : D} {ob' : T C} {nx' : Pos} {lg' : Option (T Bool)} {Z : X} (hd : o.dst = dst.map Pos.ix) (hlt : ∀ d, dst = some d → d.ix < nt) (hz : dstK sl ob' nx' lg' dst v = some Z) (C : RndOk P id ds ob nx lg v ob' nx' lg')
    (hrun : ∀ {V : Sel} {γ : Gh} {a : Act} {w : World}, Rep P V γ a w ⟨sl, ob, nx, lg⟩ → (∀ s, s ∈ names → V.ss s) → 0 < γ.cur id ∧ ∃ args : Array Value, DVL γ w ds args.toList ∧ ∀ x, (Instr.yield (γ.β id 0).1 args).run P w = .ok x w → (execOp a.eval o).run P w = .ok x w) :
    OpOk P nt o names ⟨sl, ob, nx, lg⟩ Z := by
  obtain ⟨h1, h2, h3, h4⟩ := dstK_lg hz
  refine ⟨h1.symm ▸ C.hl, h2.symm ▸ C.hx, by rw [h1, h3]; exact C.hk, fun s hs => h4 s (by rw [← hd]; exact hs), fun V hs hto ro γ a w hn g R n K Q hK => ?_⟩
  rw [h1] at hto hK
  obtain ⟨hcur, args, hargs, hr⟩ := hrun R hs
  obtain ⟨fn, tmps, asg, body, hy, hrounds⟩ := C.ok V.so hto γ args w g.gh hargs R.ob R.nx hcur
  refine wpIn_of (hr _ hy) (fun _ h => by cases h) ?_
  rw [Oper.uponIn_round]
  refine ⟨(fun h => by cases h), hrounds ro (n - 1) _ fun γ' w' u gh' F hv ho hn' => ?_⟩
  obtain ⟨_, _, s1, r1⟩ := dst_fin (ro := ro) (a := a) hd (fun d e => by rw [hn]; exact hlt d e) R hz F (fun a' ha => g.of F ha gh'.ob gh'.inj gh'.im) hv ho hn'
  exact hK γ' _ w' s1 r1

theorem dst_opt {d : Option Tmp} {r : RO} {f : Option Pos → RO} (h : (match d with
    | none => some (f none)
    | some s => (slotN nt s).map fun d => f (some d)) = some r) : ∃ dst : Option Pos, r = f dst ∧ d = dst.map Pos.ix ∧ ∀ e, dst = some e → e.ix < nt := by
  cases d with
  | none => cases h; exact ⟨none, rfl, rfl, fun e he => by cases he⟩
  | some s =>
    cases hs : slotN nt s with
    | none => simp only [hs] at h; cases h
    | some e =>
      simp only [hs, Option.map_some] at h
      cases h
      obtain ⟨h1, h2⟩ := slotN_ix hs
      exact ⟨some e, rfl, by simp [h1], fun e' he => by cases he; rw [h1]; exact h2⟩

/-- All operations. -/
theorem runO_ok (hFP : FPok P FP) (IH : ∀ nt c x e Z, ex (comp P nt c) x = some (e, Z) → XOk P nt c x e Z) {r : RO} {Z : X} (hc : compO P nt o = some r) (h : runO P FP ex r sl ob nx lg = some Z) : OpOk P nt o r.ss ⟨sl, ob, nx, lg⟩ Z := by
  cases hop : o.op with
  | move x =>
    simp only [compO, hop] at hc
    split at hc
    · rename_i s rxx hd hx
      obtain ⟨d, rfl, hd, hlt⟩ := dst_ok hd hc
      exact mv_ok (.inl hop) hd hlt hx h
    · cases hc
  | assign x =>
    simp only [compO, hop] at hc
    split at hc
    · rename_i s rxx hd hx
      obtain ⟨d, rfl, hd, hlt⟩ := dst_ok hd hc
      exact mv_ok (.inr hop) hd hlt hx h
    · cases hc
  | pick c x y =>
    simp only [compO, hop] at hc
    split at hc
    · rename_i s r1 r2 r3 hd h1 h2 h3
      obtain ⟨d, rfl, hd, hlt⟩ := dst_ok hd hc
      exact pick_ok hop hd hlt h1 h2 h3 h
    · cases hc
  | alloc t =>
    simp only [compO, hop] at hc
    split at hc
    · rename_i s zs hd hz
      obtain ⟨d, rfl, hd, hlt⟩ := dst_ok hd hc
      exact new_ok hop hd hlt hz h
    · cases hc
  | box t x =>
    simp only [compO, hop] at hc
    split at hc
    · rename_i s rxx hd hx
      obtain ⟨d, rfl, hd, hlt⟩ := dst_ok hd hc
      exact box_ok hop hd hlt hx h
    · cases hc
  | build t ps =>
    simp only [compO, hop] at hc
    split at hc
    · rename_i s zs pl hd hz hpl
      split at hc
      · rename_i rs hrs
        obtain ⟨d, rfl, hd, hlt⟩ := dst_ok hd hc
        exact bld_ok hop hd hlt hz hpl hrs h
      · cases hc
    · cases hc
  | buildSlice t len ps =>
    simp only [compO, hop] at hc
    split at hc
    · rename_i s el n hd hsl
      obtain ⟨hu, hs⟩ := sliceEl_ok hsl
      split at hc
      · rename_i z rs hz hrs
        cases hb : (Nat.ble (len * n) 16777216 && Nat.beq z.length n) with
        | false => rw [hb] at hc; cases hc
        | true =>
          rw [hb] at hc
          rw [Bool.and_eq_true] at hb
          obtain ⟨d, rfl, hd, hlt⟩ := dst_ok hd hc
          exact bsl_ok hop hd hlt hu hs hz hrs (Nat.le_of_ble_eq_true hb.1) (Nat.eq_of_beq_eq_true hb.2) h
      · cases hc
    · cases hc
  | load t x =>
    simp only [compO, hop] at hc
    split at hc
    · rename_i s rxx n hd hx ht hn
      obtain ⟨d, rfl, hd, hlt⟩ := dst_ok hd hc
      exact ldn_ok hop hd hlt hx ht hn h
    · rename_i s rxx n hd hx ht hn
      obtain ⟨d, rfl, hd, hlt⟩ := dst_ok hd hc
      exact ld1_ok hop hd hlt hx ht h
    · cases hc
  | store t x y =>
    simp only [compO, hop] at hc
    split at hc
    · rename_i r1 r2 n hd hx hy hn
      cases hc
      exact st_ok hop hd hx hy hn h
    · cases hc
  | nilCheck x =>
    simp only [compO, hop] at hc
    split at hc
    · rename_i s rxx hd hx
      obtain ⟨d, rfl, hd, hlt⟩ := dst_ok hd hc
      exact nilc_ok hop hd hlt hx h
    · cases hc
  | binOp op t x y t' =>
    simp only [compO, hop] at hc
    split at hc
    · rename_i s r1 r2 hd hx hy
      split at hc
      · rename_i k hu
        obtain ⟨d, rfl, hd, hlt⟩ := dst_ok hd hc
        exact bin_ok hop hd hlt hx hy h
      · split at hc
        · rename_i ks hk
          obtain ⟨d, rfl, hd, hlt⟩ := dst_ok hd hc
          exact eqr_ok hop rfl hk hd hlt hx hy h
        · rename_i ks hk
          obtain ⟨d, rfl, hd, hlt⟩ := dst_ok hd hc
          exact eqr_ok hop rfl hk hd hlt hx hy h
        · split at hc
          · rename_i tk htk
            obtain ⟨d, rfl, hd, hlt⟩ := dst_ok hd hc
            exact eq_ok hop rfl htk hd hlt hx hy h
          · cases hc
        · split at hc
          · rename_i tk htk
            obtain ⟨d, rfl, hd, hlt⟩ := dst_ok hd hc
            exact eq_ok hop rfl htk hd hlt hx hy h
          · cases hc
        · cases hc
    · cases hc
  | unOp op t x =>
    simp only [compO, hop] at hc
    split at hc
    · rename_i s rxx hd hx
      obtain ⟨d, rfl, hd, hlt⟩ := dst_ok hd hc
      exact un_ok hop hd hlt hx h
    · cases hc
  | convert t' t x =>
    simp only [compO, hop] at hc
    split at hc
    · rename_i s rxx k' k hd hx hu' hu
      obtain ⟨d, rfl, hd, hlt⟩ := dst_ok hd hc
      exact cvi_ok hop hu' hu hd hlt hx h
    · cases hc
  | makeFunc fn first caps =>
    cases fn with
    | func f =>
      simp only [compO, hop] at hc
      split at hc
      · rename_i s pf r1 r2 hd hf h1 h2
        obtain ⟨d, rfl, hd, hlt⟩ := dst_ok hd hc
        exact fnl_ok hop hd hlt hf h1 h2 h
      · cases hc
    | _ => simp only [compO, hop] at hc; cases hc
  | makeMap t res =>
    cases res with
    | none =>
      simp only [compO, hop] at hc
      split at hc
      · rename_i s hd
        obtain ⟨d, rfl, hd, hlt⟩ := dst_ok hd hc
        exact mkm_ok hop hd hlt h
      · cases hc
    | some q => simp only [compO, hop] at hc; cases hc
  | makeSlice t l c =>
    simp only [compO, hop] at hc
    split at hc
    · rename_i s el n r1 r2 hd hsl h1 h2
      obtain ⟨hu, hs⟩ := sliceEl_ok hsl
      split at hc
      · rename_i z i hz hi
        cases hb : (Nat.ble i.bytes 65536 && Nat.beq z.length n) with
        | false => rw [hb] at hc; cases hc
        | true =>
          rw [hb] at hc
          rw [Bool.and_eq_true] at hb
          obtain ⟨d, rfl, hd, hlt⟩ := dst_ok hd hc
          exact mks_ok hop hd hlt h1 h2 hu hs hz hi (Nat.le_of_ble_eq_true hb.1) (Nat.eq_of_beq_eq_true hb.2) h
      · cases hc
    · cases hc
  | slice t x lo hi mx =>
    simp only [compO, hop] at hc
    split at hc
    · rename_i s rxx rlo rhi rmx hd hx hlo hhi hmx
      cases hb : (rhi.isNone && rmx.isSome) with
      | true => rw [hb] at hc; cases hc
      | false =>
        rw [hb] at hc
        simp only [cond_false] at hc
        split at hc
        · rename_i el hu
          split at hc
          · rename_i n hn
            obtain ⟨d, rfl, hd, hlt⟩ := dst_ok hd hc
            exact slc_ok hop hd hlt hx hlo hhi hmx hb hu hn h
          · cases hc
        · rename_i len el hu
          split at hc
          · rename_i n hn
            obtain ⟨d, rfl, hd, hlt⟩ := dst_ok hd hc
            exact sla_ok hop hd hlt hx hlo hhi hmx hu hn h
          · cases hc
        · cases hc
    · cases hc
  | fieldAddr t x f =>
    simp only [compO, hop] at hc
    split at hc
    · rename_i s rxx k ft hd hx hf
      split at hc
      · rename_i n hn
        obtain ⟨d, rfl, hd, hlt⟩ := dst_ok hd hc
        exact fad_ok hop hd hlt hx hf hn h
      · cases hc
    · cases hc
  | field t x f =>
    simp only [compO, hop] at hc
    split at hc
    · rename_i s rxx k ft hd hx hf
      split at hc
      · rename_i row n hr hn
        obtain ⟨d, rfl, hd, hlt⟩ := dst_ok hd hc
        exact fld_ok hop hd hlt hx hf hr hn h
      · cases hc
    · cases hc
  | indexAddr t x i =>
    simp only [compO, hop] at hc
    split at hc
    · rename_i s r1 r2 el hd hx hi hu
      split at hc
      · rename_i n hn
        obtain ⟨d, rfl, hd, hlt⟩ := dst_ok hd hc
        exact ixs_ok hop hd hlt hx hi hu hn h
      · cases hc
    · rename_i s r1 r2 len el hd hx hi hu
      split at hc
      · rename_i n hn
        obtain ⟨d, rfl, hd, hlt⟩ := dst_ok hd hc
        exact ixa_ok hop hd hlt hx hi hu hn h
      · cases hc
    · cases hc
  | lookup t x i ok =>
    simp only [compO, hop] at hc
    split at hc
    · rename_i s r1 r2 k el hd hx hi hu
      split at hc
      · rename_i zero ks hz hk
        obtain ⟨d, rfl, hd, hlt⟩ := dst_ok hd hc
        exact lkp_ok hop hd hlt hx hi hu hz hk h
      · cases hc
    · cases hc
  | mapUpdate t m i v =>
    simp only [compO, hop] at hc
    split at hc
    · rename_i r1 r2 r3 k el hd h1 h2 h3 hu
      split at hc
      · rename_i ks hk
        cases hc
        exact mup_ok (.inl hop) hd h1 h2 h3 hu hk h
      · cases hc
    · cases hc
  | insert t m i v =>
    simp only [compO, hop] at hc
    split at hc
    · rename_i r1 r2 r3 k el hd h1 h2 h3 hu
      split at hc
      · rename_i ks hk
        cases hc
        exact mup_ok (.inr hop) hd h1 h2 h3 hu hk h
      · cases hc
    · cases hc
  | extract x n =>
    simp only [compO, hop] at hc
    split at hc
    · rename_i s rxx hd hx
      obtain ⟨d, rfl, hd, hlt⟩ := dst_ok hd hc
      exact ext_ok hop hd hlt hx h
    · cases hc
  | index t x i =>
    simp only [compO, hop] at hc
    split at hc
    · rename_i s r1 r2 hd hx hi
      split at hc
      · rename_i len el hu
        split at hc
        · rename_i row z hr hz
          obtain ⟨d, rfl, hd, hlt⟩ := dst_ok hd hc
          exact ixv_ok hop hd hlt hx hi hu hr hz h
        · cases hc
      · rename_i hu
        obtain ⟨d, rfl, hd, hlt⟩ := dst_ok hd hc
        exact ixt_ok hop hd hlt hx hi hu h
      · cases hc
    · cases hc
  | call c =>
    obtain ⟨callee, args, tys⟩ := c
    cases callee with
    | value f =>
      -- a function value that is called
      have byValue : ∀ {y : Operand} {pf : RX} {xs' : List RX} {dst : Option Pos}, o.op = .call { callee := .value y, args := args, argTypes := tys } → rx y = some pf → rxs args.toList = some xs' → o.dst = dst.map Pos.ix → (∀ e, dst = some e → e.ix < nt) → r_cv P FP ex dst pf xs' sl ob nx lg = some Z → OpOk P nt o (pf.ss ++ RX.sss xs') ⟨sl, ob, nx, lg⟩ Z := by
        intro y pf xs' dst hop hf hxs hd hlt h
        unfold r_cv at h
        split at h
        · rename_i v0 ds hv hds
          rcases callV_ok hFP IH h with ⟨g, first, caps, v, ob', nx', lg', rfl, h1, h2⟩ | ⟨id, v, ob', nx', lg', rfl, h1, h2⟩
          · refine call_op hd hlt h1 h2 fun {V γ a w} R hs => ?_
            obtain ⟨vx, vy, e1, e2, e3⟩ := DV_fn (opd_ok hf hv R fun s h => hs s (by simp [h]))
            refine ⟨vx ++ args.map a.eval ++ vy, ?_, fun hr => ?_⟩
            · simp only [Array.toList_append, Array.toList_map, List.append_assoc]
              exact e2.append ((opds_ok hxs hds R fun s h => hs s (by simp [h])).append e3)
            · rw [Array.append_assoc] at hr
              simp [execOp, hop, resolve, Deferred.ofValue, e1, invoke, hr]
          · refine rnd_op hd hlt h1 h2 fun {V γ a w} R hs => ?_
            have e1 := opd_ok hf hv R fun s h => hs s (by simp [h])
            unfold DV at e1
            refine ⟨e1.1, args.map a.eval, ?_, fun x hr => ?_⟩
            · rw [Array.toList_map]
              exact opds_ok hxs hds R fun s h => hs s (by simp [h])
            · simp [execOp, hop, resolve, Deferred.ofValue, e1.2, invoke, hr]
        · cases h
      cases f with
      | func f =>
        simp only [compO, hop] at hc
        split at hc
        · rename_i pf xs' hf hxs
          obtain ⟨dst, rfl, hd, hlt⟩ := dst_opt (f := fun d => RO.cf d pf xs') hc
          have h : r_cf FP ex dst pf xs' sl ob nx lg = some Z := h
          unfold r_cf at h
          split at h
          · rename_i ds hds
            obtain ⟨v, ob', nx', lg', h1, h2⟩ := callF_ok hFP IH h
            refine call_op hd hlt h1 h2 fun {V γ a w} R hs => ?_
            refine ⟨args.map a.eval, ?_, fun hr => ?_⟩
            · rw [Array.toList_map]
              exact opds_ok hxs hds R fun s h => hs s h
            · rw [slot_ix hf] at hr
              rw [slot_ix hf]
              simp [execOp, hop, resolve, Deferred.ofValue, Act.eval, invoke, hr]
          · cases h
        · cases hc
      | _ =>
        simp only [compO, hop] at hc
        split at hc
        · rename_i pf xs' hf hxs
          obtain ⟨dst, rfl, hd, hlt⟩ := dst_opt (f := fun d => RO.cv d pf xs') hc
          exact byValue hop hf hxs hd hlt h
        · cases hc
    | invoke r m => simp only [compO, hop] at hc; cases hc
    | builtin b =>
      cases b with
      | len =>
        simp only [compO, hop] at hc
        split at hc
        · rename_i s x t hd ha ht
          split at hc
          · rename_i rxx el hx hu
            obtain ⟨d, rfl, hd, hlt⟩ := dst_ok hd hc
            exact len_ok hop ha ht hd hlt hx hu h
          · cases hc
        · cases hc
      | cap =>
        simp only [compO, hop] at hc
        split at hc
        · rename_i s x t hd ha ht
          split at hc
          · rename_i rxx el hx hu
            obtain ⟨d, rfl, hd, hlt⟩ := dst_ok hd hc
            exact cap_ok hop ha ht hd hlt hx hu h
          · cases hc
        · cases hc
      | append =>
        simp only [compO, hop] at hc
        split at hc
        · rename_i s x y t t' hd ha ht
          split at hc
          · rename_i r1 r2 el n e' hx hy hsl hu'
            obtain ⟨hu, hs⟩ := sliceEl_ok hsl
            split at hc
            · rename_i z i hz hi
              cases hb : (Nat.beq z.length n && Nat.ble i.bytes 65536) with
              | false => rw [hb] at hc; cases hc
              | true =>
                rw [hb] at hc
                rw [Bool.and_eq_true] at hb
                obtain ⟨d, rfl, hd, hlt⟩ := dst_ok hd hc
                exact app_ok hop ha ht hd hlt hx hy hu hs hu' hz hi (Nat.eq_of_beq_eq_true hb.1) (Nat.le_of_ble_eq_true hb.2) h
            · cases hc
          · rename_i r1 r2 el n e' hx hy hsl hu'
            obtain ⟨hu, hs⟩ := sliceEl_ok hsl
            split at hc
            · rename_i z i hz hi
              cases hb : (Nat.beq z.length n && Nat.ble i.bytes 65536) with
              | false => rw [hb] at hc; cases hc
              | true =>
                rw [hb] at hc
                rw [Bool.and_eq_true] at hb
                obtain ⟨d, rfl, hd, hlt⟩ := dst_ok hd hc
                exact apn_ok hop ha ht hd hlt hx hy hu hs hu' hz hi (Nat.eq_of_beq_eq_true hb.1) (Nat.le_of_ble_eq_true hb.2) h
            · cases hc
          · cases hc
        · cases hc
      | copy =>
        simp only [compO, hop] at hc
        split at hc
        · rename_i x y t t' ha ht
          split at hc
          · rename_i r1 r2 el n e' hx hy hsl hu'
            obtain ⟨hu, hs⟩ := sliceEl_ok hsl
            split at hc
            · rename_i hd
              cases hc
              exact cpy_ok (dst := none) hop ha ht hd (fun d e => by cases e) hx hy hu hs hu' h
            · rename_i s hd
              obtain ⟨d, rfl, hd, hlt⟩ := dst_ok hd hc
              exact cpy_ok (dst := some d) hop ha ht hd (fun d' e => by cases e; exact hlt) hx hy hu hs hu' h
          · cases hc
        · cases hc
      | clear =>
        simp only [compO, hop] at hc
        split at hc
        · rename_i x t hd ha ht
          split at hc
          · rename_i r1 el n hx hsl
            obtain ⟨hu, hs⟩ := sliceEl_ok hsl
            split at hc
            · rename_i z hz
              cases hb : Nat.beq z.length n with
              | false => rw [hb] at hc; cases hc
              | true =>
                rw [hb] at hc
                cases hc
                exact clr_ok hop ha ht hd hx hu hs hz (Nat.eq_of_beq_eq_true hb) h
            · cases hc
          · cases hc
        · cases hc
      | max =>
        simp only [compO, hop] at hc
        split at hc
        · rename_i s x y _ hd ha
          split at hc
          · rename_i r1 r2 hx hy
            obtain ⟨d, rfl, hd, hlt⟩ := dst_ok hd hc
            exact maxmin_ok hop ha hd hlt hx hy (.inl ⟨rfl, h⟩)
          · cases hc
        · cases hc
      | min =>
        simp only [compO, hop] at hc
        split at hc
        · rename_i s x y _ hd ha
          split at hc
          · rename_i r1 r2 hx hy
            obtain ⟨d, rfl, hd, hlt⟩ := dst_ok hd hc
            exact maxmin_ok hop ha hd hlt hx hy (.inr ⟨rfl, h⟩)
          · cases hc
        · cases hc
      | _ => simp only [compO, hop] at hc; cases hc
  | _ => simp only [compO, hop] at hc; cases hc
end
end Go.Ev
