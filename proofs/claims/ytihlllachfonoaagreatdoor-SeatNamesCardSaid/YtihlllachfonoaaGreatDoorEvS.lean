import Derived.Test.YtihlllachfonoaaGreatDoorEvR
set_option linter.all false
namespace Go.Ev
open Go.RowKit (Below)

section
variable {P : Program} {sl : T D} {ob : T C} {nx : Pos} {lg : Option (T Bool)} {nt : Nat} {o : Oper}

theorem sliceEl_ok {t el : TypeId} {n : Nat} (h : sliceEl P t = some (el, n)) : P.underlying t = some (.slice el) ∧ szOf P el = some n := by
  unfold sliceEl at h
  split at h
  · rename_i el' hu
    split at h
    · rename_i m hm
      cases h
      exact ⟨hu, hm⟩
    · cases h
  · cases h

theorem step_ok {r : RO} {Z : X} (hc : compO P nt o = some r) (h : step r sl ob nx lg = some Z) : OpOk P nt o r.ss ⟨sl, ob, nx, lg⟩ Z := by
  cases hop : o.op with
  | move x =>
    simp only [compO, hop] at hc
    split at hc
    · rename_i s rxx hd hx
      obtain ⟨d, rfl, hd, hlt⟩ := dst_ok hd hc
      exact mv_ok (.inl hop) hd hlt hx h
    · cases hc
  | assign x =>
    simp only [compO, hop] at hc
    split at hc
    · rename_i s rxx hd hx
      obtain ⟨d, rfl, hd, hlt⟩ := dst_ok hd hc
      exact mv_ok (.inr hop) hd hlt hx h
    · cases hc
  | pick c x y =>
    simp only [compO, hop] at hc
    split at hc
    · rename_i s r1 r2 r3 hd h1 h2 h3
      obtain ⟨d, rfl, hd, hlt⟩ := dst_ok hd hc
      exact pick_ok hop hd hlt h1 h2 h3 h
    · cases hc
  | alloc t =>
    simp only [compO, hop] at hc
    split at hc
    · rename_i s zs hd hz
      obtain ⟨d, rfl, hd, hlt⟩ := dst_ok hd hc
      exact new_ok hop hd hlt hz h
    · cases hc
  | box t x =>
    simp only [compO, hop] at hc
    split at hc
    · rename_i s rxx hd hx
      obtain ⟨d, rfl, hd, hlt⟩ := dst_ok hd hc
      exact box_ok hop hd hlt hx h
    · cases hc
  | build t ps =>
    simp only [compO, hop] at hc
    split at hc
    · rename_i s zs pl hd hz hpl
      split at hc
      · rename_i rs hrs
        obtain ⟨d, rfl, hd, hlt⟩ := dst_ok hd hc
        exact bld_ok hop hd hlt hz hpl hrs h
      · cases hc
    · cases hc
  | buildSlice t len ps =>
    simp only [compO, hop] at hc
    split at hc
    · rename_i s el n hd hsl
      obtain ⟨hu, hs⟩ := sliceEl_ok hsl
      split at hc
      · rename_i z rs hz hrs
        cases hb : (Nat.ble (len * n) 16777216 && Nat.beq z.length n) with
        | false => rw [hb] at hc; cases hc
        | true =>
          rw [hb] at hc
          rw [Bool.and_eq_true] at hb
          obtain ⟨d, rfl, hd, hlt⟩ := dst_ok hd hc
          exact bsl_ok hop hd hlt hu hs hz hrs (Nat.le_of_ble_eq_true hb.1) (Nat.eq_of_beq_eq_true hb.2) h
      · cases hc
    · cases hc
  | load t x =>
    simp only [compO, hop] at hc
    split at hc
    · rename_i s rxx n hd hx ht hn
      obtain ⟨d, rfl, hd, hlt⟩ := dst_ok hd hc
      exact ldn_ok hop hd hlt hx ht hn h
    · rename_i s rxx n hd hx ht hn
      obtain ⟨d, rfl, hd, hlt⟩ := dst_ok hd hc
      exact ld1_ok hop hd hlt hx ht h
    · cases hc
  | store t x y =>
    simp only [compO, hop] at hc
    split at hc
    · rename_i r1 r2 n hd hx hy hn
      cases hc
      exact st_ok hop hd hx hy hn h
    · cases hc
  | nilCheck x =>
    simp only [compO, hop] at hc
    split at hc
    · rename_i s rxx hd hx
      obtain ⟨d, rfl, hd, hlt⟩ := dst_ok hd hc
      exact nilc_ok hop hd hlt hx h
    · cases hc
  | binOp op t x y t' =>
    simp only [compO, hop] at hc
    split at hc
    · rename_i s r1 r2 hd hx hy
      split at hc
      · rename_i k hu
        obtain ⟨d, rfl, hd, hlt⟩ := dst_ok hd hc
        exact bin_ok hop hd hlt hx hy h
      · split at hc
        · rename_i ks hk
          obtain ⟨d, rfl, hd, hlt⟩ := dst_ok hd hc
          exact eqr_ok hop rfl hk hd hlt hx hy h
        · rename_i ks hk
          obtain ⟨d, rfl, hd, hlt⟩ := dst_ok hd hc
          exact eqr_ok hop rfl hk hd hlt hx hy h
        · split at hc
          · rename_i tk htk
            obtain ⟨d, rfl, hd, hlt⟩ := dst_ok hd hc
            exact eq_ok hop rfl htk hd hlt hx hy h
          · cases hc
        · split at hc
          · rename_i tk htk
            obtain ⟨d, rfl, hd, hlt⟩ := dst_ok hd hc
            exact eq_ok hop rfl htk hd hlt hx hy h
          · cases hc
        · cases hc
    · cases hc
  | unOp op t x =>
    simp only [compO, hop] at hc
    split at hc
    · rename_i s rxx hd hx
      obtain ⟨d, rfl, hd, hlt⟩ := dst_ok hd hc
      exact un_ok hop hd hlt hx h
    · cases hc
  | convert t' t x =>
    simp only [compO, hop] at hc
    split at hc
    · rename_i s rxx k' k hd hx hu' hu
      obtain ⟨d, rfl, hd, hlt⟩ := dst_ok hd hc
      exact cvi_ok hop hu' hu hd hlt hx h
    · cases hc
  | makeFunc fn first caps =>
    cases fn with
    | func f =>
      simp only [compO, hop] at hc
      split at hc
      · rename_i s pf r1 r2 hd hf h1 h2
        obtain ⟨d, rfl, hd, hlt⟩ := dst_ok hd hc
        exact fnl_ok hop hd hlt hf h1 h2 h
      · cases hc
    | _ => simp only [compO, hop] at hc; cases hc
  | makeMap t res =>
    cases res with
    | none =>
      simp only [compO, hop] at hc
      split at hc
      · rename_i s hd
        obtain ⟨d, rfl, hd, hlt⟩ := dst_ok hd hc
        exact mkm_ok hop hd hlt h
      · cases hc
    | some q => simp only [compO, hop] at hc; cases hc
  | makeSlice t l c =>
    simp only [compO, hop] at hc
    split at hc
    · rename_i s el n r1 r2 hd hsl h1 h2
      obtain ⟨hu, hs⟩ := sliceEl_ok hsl
      split at hc
      · rename_i z i hz hi
        cases hb : (Nat.ble i.bytes 65536 && Nat.beq z.length n) with
        | false => rw [hb] at hc; cases hc
        | true =>
          rw [hb] at hc
          rw [Bool.and_eq_true] at hb
          obtain ⟨d, rfl, hd, hlt⟩ := dst_ok hd hc
          exact mks_ok hop hd hlt h1 h2 hu hs hz hi (Nat.le_of_ble_eq_true hb.1) (Nat.eq_of_beq_eq_true hb.2) h
      · cases hc
    · cases hc
  | slice t x lo hi mx =>
    simp only [compO, hop] at hc
    split at hc
    · rename_i s rxx rlo rhi rmx hd hx hlo hhi hmx
      cases hb : (rhi.isNone && rmx.isSome) with
      | true => rw [hb] at hc; cases hc
      | false =>
        rw [hb] at hc
        simp only [cond_false] at hc
        split at hc
        · rename_i el hu
          split at hc
          · rename_i n hn
            obtain ⟨d, rfl, hd, hlt⟩ := dst_ok hd hc
            exact slc_ok hop hd hlt hx hlo hhi hmx hb hu hn h
          · cases hc
        · rename_i len el hu
          split at hc
          · rename_i n hn
            obtain ⟨d, rfl, hd, hlt⟩ := dst_ok hd hc
            exact sla_ok hop hd hlt hx hlo hhi hmx hu hn h
          · cases hc
        · cases hc
    · cases hc
  | fieldAddr t x f =>
    simp only [compO, hop] at hc
    split at hc
    · rename_i s rxx k ft hd hx hf
      split at hc
      · rename_i n hn
        obtain ⟨d, rfl, hd, hlt⟩ := dst_ok hd hc
        exact fad_ok hop hd hlt hx hf hn h
      · cases hc
    · cases hc
  | field t x f =>
    simp only [compO, hop] at hc
    split at hc
    · rename_i s rxx k ft hd hx hf
      split at hc
      · rename_i row n hr hn
        obtain ⟨d, rfl, hd, hlt⟩ := dst_ok hd hc
        exact fld_ok hop hd hlt hx hf hr hn h
      · cases hc
    · cases hc
  | indexAddr t x i =>
    simp only [compO, hop] at hc
    split at hc
    · rename_i s r1 r2 el hd hx hi hu
      split at hc
      · rename_i n hn
        obtain ⟨d, rfl, hd, hlt⟩ := dst_ok hd hc
        exact ixs_ok hop hd hlt hx hi hu hn h
      · cases hc
    · rename_i s r1 r2 len el hd hx hi hu
      split at hc
      · rename_i n hn
        obtain ⟨d, rfl, hd, hlt⟩ := dst_ok hd hc
        exact ixa_ok hop hd hlt hx hi hu hn h
      · cases hc
    · cases hc
  | lookup t x i ok =>
    simp only [compO, hop] at hc
    split at hc
    · rename_i s r1 r2 k el hd hx hi hu
      split at hc
      · rename_i zero ks hz hk
        obtain ⟨d, rfl, hd, hlt⟩ := dst_ok hd hc
        exact lkp_ok hop hd hlt hx hi hu hz hk h
      · cases hc
    · cases hc
  | mapUpdate t m i v =>
    simp only [compO, hop] at hc
    split at hc
    · rename_i r1 r2 r3 k el hd h1 h2 h3 hu
      split at hc
      · rename_i ks hk
        cases hc
        exact mup_ok (.inl hop) hd h1 h2 h3 hu hk h
      · cases hc
    · cases hc
  | insert t m i v =>
    simp only [compO, hop] at hc
    split at hc
    · rename_i r1 r2 r3 k el hd h1 h2 h3 hu
      split at hc
      · rename_i ks hk
        cases hc
        exact mup_ok (.inr hop) hd h1 h2 h3 hu hk h
      · cases hc
    · cases hc
  | extract x n =>
    simp only [compO, hop] at hc
    split at hc
    · rename_i s rxx hd hx
      obtain ⟨d, rfl, hd, hlt⟩ := dst_ok hd hc
      exact ext_ok hop hd hlt hx h
    · cases hc
  | index t x i =>
    simp only [compO, hop] at hc
    split at hc
    · rename_i s r1 r2 hd hx hi
      split at hc
      · rename_i len el hu
        split at hc
        · rename_i row z hr hz
          obtain ⟨d, rfl, hd, hlt⟩ := dst_ok hd hc
          exact ixv_ok hop hd hlt hx hi hu hr hz h
        · cases hc
      · rename_i hu
        obtain ⟨d, rfl, hd, hlt⟩ := dst_ok hd hc
        exact ixt_ok hop hd hlt hx hi hu h
      · cases hc
    · cases hc
  | call c =>
    obtain ⟨callee, args, tys⟩ := c
    cases callee with
    | value f =>
      exfalso
      cases f with
      | func f =>
        simp only [compO, hop] at hc
        split at hc
        · split at hc
          · cases hc; cases h
          · rename_i s hd
            obtain ⟨d, rfl, _⟩ := dst_ok hd hc
            cases h
        · cases hc
      | _ =>
        simp only [compO, hop] at hc
        split at hc
        · split at hc
          · cases hc; cases h
          · rename_i s hd
            obtain ⟨d, rfl, _⟩ := dst_ok hd hc
            cases h
        · cases hc
    | invoke r m => simp only [compO, hop] at hc; cases hc
    | builtin b =>
      cases b with
      | len =>
        simp only [compO, hop] at hc
        split at hc
        · rename_i s x t hd ha ht
          split at hc
          · rename_i rxx el hx hu
            obtain ⟨d, rfl, hd, hlt⟩ := dst_ok hd hc
            exact len_ok hop ha ht hd hlt hx hu h
          · cases hc
        · cases hc
      | cap =>
        simp only [compO, hop] at hc
        split at hc
        · rename_i s x t hd ha ht
          split at hc
          · rename_i rxx el hx hu
            obtain ⟨d, rfl, hd, hlt⟩ := dst_ok hd hc
            exact cap_ok hop ha ht hd hlt hx hu h
          · cases hc
        · cases hc
      | append =>
        simp only [compO, hop] at hc
        split at hc
        · rename_i s x y t t' hd ha ht
          split at hc
          · rename_i r1 r2 el n e' hx hy hsl hu'
            obtain ⟨hu, hs⟩ := sliceEl_ok hsl
            split at hc
            · rename_i z i hz hi
              cases hb : (Nat.beq z.length n && Nat.ble i.bytes 65536) with
              | false => rw [hb] at hc; cases hc
              | true =>
                rw [hb] at hc
                rw [Bool.and_eq_true] at hb
                obtain ⟨d, rfl, hd, hlt⟩ := dst_ok hd hc
                exact app_ok hop ha ht hd hlt hx hy hu hs hu' hz hi (Nat.eq_of_beq_eq_true hb.1) (Nat.le_of_ble_eq_true hb.2) h
            · cases hc
          · rename_i r1 r2 el n e' hx hy hsl hu'
            obtain ⟨hu, hs⟩ := sliceEl_ok hsl
            split at hc
            · rename_i z i hz hi
              cases hb : (Nat.beq z.length n && Nat.ble i.bytes 65536) with
              | false => rw [hb] at hc; cases hc
              | true =>
                rw [hb] at hc
                rw [Bool.and_eq_true] at hb
                obtain ⟨d, rfl, hd, hlt⟩ := dst_ok hd hc
                exact apn_ok hop ha ht hd hlt hx hy hu hs hu' hz hi (Nat.eq_of_beq_eq_true hb.1) (Nat.le_of_ble_eq_true hb.2) h
            · cases hc
          · cases hc
        · cases hc
      | copy =>
        simp only [compO, hop] at hc
        split at hc
        · rename_i x y t t' ha ht
          split at hc
          · rename_i r1 r2 el n e' hx hy hsl hu'
            obtain ⟨hu, hs⟩ := sliceEl_ok hsl
            split at hc
            · rename_i hd
              cases hc
              exact cpy_ok (dst := none) hop ha ht hd (fun d e => by cases e) hx hy hu hs hu' h
            · rename_i s hd
              obtain ⟨d, rfl, hd, hlt⟩ := dst_ok hd hc
              exact cpy_ok (dst := some d) hop ha ht hd (fun d' e => by cases e; exact hlt) hx hy hu hs hu' h
          · cases hc
        · cases hc
      | clear =>
        simp only [compO, hop] at hc
        split at hc
        · rename_i x t hd ha ht
          split at hc
          · rename_i r1 el n hx hsl
            obtain ⟨hu, hs⟩ := sliceEl_ok hsl
            split at hc
            · rename_i z hz
              cases hb : Nat.beq z.length n with
              | false => rw [hb] at hc; cases hc
              | true =>
                rw [hb] at hc
                cases hc
                exact clr_ok hop ha ht hd hx hu hs hz (Nat.eq_of_beq_eq_true hb) h
            · cases hc
          · cases hc
        · cases hc
      | max =>
        simp only [compO, hop] at hc
        split at hc
        · rename_i s x y _ hd ha
          split at hc
          · rename_i r1 r2 hx hy
            obtain ⟨d, rfl, hd, hlt⟩ := dst_ok hd hc
            exact maxmin_ok hop ha hd hlt hx hy (.inl ⟨rfl, h⟩)
          · cases hc
        · cases hc
      | min =>
        simp only [compO, hop] at hc
        split at hc
        · rename_i s x y _ hd ha
          split at hc
          · rename_i r1 r2 hx hy
            obtain ⟨d, rfl, hd, hlt⟩ := dst_ok hd hc
            exact maxmin_ok hop ha hd hlt hx hy (.inr ⟨rfl, h⟩)
          · cases hc
        · cases hc
      | _ => simp only [compO, hop] at hc; cases hc
  | _ => simp only [compO, hop] at hc; cases hc
end
end Go.Ev
