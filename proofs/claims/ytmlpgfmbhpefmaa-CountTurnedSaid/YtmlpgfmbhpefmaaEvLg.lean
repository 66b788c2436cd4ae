import Derived.Test.YtmlpgfmbhpefmaaEvLf
import Derived.Test.YtmlpgfmbhpefmaaEvKv
set_option linter.all false
namespace Go.Ev
open Go.Proofs
set_option maxRecDepth 100000
section
variable {sl : T D} {ob : T C} {nx : Pos} {lg : Option (T Bool)} {K : X → Prop}
theorem WSt.app_firstL {d idy : Pos} {z curY : Nat} {roY : Bool} {x y : RX} {a : D} {r : List D} {csY : List Cell} (hx : opd sl x = some a) (ha : a = .ns ∨ a = .em) (hy : opd sl y = some (.sl idy 0 1 0 z)) (hoy : ob.get idy = some (.cells roY csY curY)) (hcy : csY = r.map fun d => Cell.o d 0) (hr : r.length = z)
    (h : lRK lg idy fun lg => lWK lg nx fun lg => T.setK nx (.cells false (r.map fun d => Cell.o d 0) 1) ob fun ob => Pos.succK nx fun nx' => wOut sl ob nx' lg d K (.sl nx 0 1 0 z)) : WSt (.app d z x y) ⟨sl, ob, nx, lg⟩ K := by
  obtain ⟨l1, e1, h⟩ := lRK_ex h
  obtain ⟨l2, e2, h⟩ := lWK_ex h
  rw [T.setK_eq, Pos.succK_eq] at h
  obtain ⟨h2, h3⟩ := wOut_ok h
  refine ⟨_, ?_, h3⟩
  show s_app d z x y sl ob nx lg = _
  unfold s_app
  rw [hx, hy]
  subst hcy hr
  have hb : Nat.beq r.length r.length = true := Nat.beq_refl _
  have hrd : readK (β := X) 0 (Nat.mul 1 r.length) (dropC 0 (r.map fun d => Cell.o d 0)) = fun k => k r := by
    rw [dropC_eq, List.drop_zero, show Nat.mul 1 r.length = r.length from Nat.one_mul _]
    have key : ∀ (l : List D) (k : List D → Option X), readK 0 l.length (l.map fun d => Cell.o d 0) k = k l := by
      intro l
      induction l with
      | nil => exact fun k => rfl
      | cons a l ih => exact fun k => ih fun ds => k (a :: ds)
    exact funext fun k => key r k
  simp only [srcK, hb, cond_true, hoy, hrd, logO, e1]
  have hle : Nat.ble (Nat.succ 0) 2147483648 = true := rfl
  rcases ha with rfl | rfl <;> simp only [hle, cond_true, openK_eq, freshK, e2, T.setK_eq, Pos.succK_eq] <;> exact h2
theorem WSt.app_oneL {d id idy : Pos} {z st len len' cur curY : Nat} {roY : Bool} {x y : RX} {ds r : List D} {csY : List Cell} {ob2 : T C} (hx : opd sl x = some (.sl id 0 len st z)) (hy : opd sl y = some (.sl idy 0 1 0 z)) (hoy : ob.get idy = some (.cells roY csY curY)) (hcy : csY = r.map fun d => Cell.o d 0) (hr : r.length = z) (hox : ob.get id = some (.cells false (ds.map fun d => Cell.o d st) cur)) (hds : ds.length = len * z) (hcur : cur = st + 1) (hlen : len' = len + 1) (hmax : len < 2147483648)
    (hob2 : T.set id (.cells false ((ds.map fun d => Cell.o d st) ++ r.map fun d => Cell.o d cur) (cur + 1)) ob = ob2) (h : lRK lg idy fun lg => lWK lg id fun lg => wOut sl ob2 nx lg d K (.sl id 0 len' cur z)) : WSt (.app d z x y) ⟨sl, ob, nx, lg⟩ K := by
  obtain ⟨l1, e1, h⟩ := lRK_ex h
  obtain ⟨l2, e2, h⟩ := lWK_ex h
  obtain ⟨h2, h3⟩ := wOut_ok h
  refine ⟨_, ?_, h3⟩
  show s_app d z x y sl ob nx lg = _
  unfold s_app
  rw [hx, hy]
  subst hcy hr hlen hob2
  have hb : Nat.beq r.length r.length = true := Nat.beq_refl _
  have hrd : readK (β := X) 0 (Nat.mul 1 r.length) (dropC 0 (r.map fun d => Cell.o d 0)) = fun k => k r := by
    rw [dropC_eq, List.drop_zero, show Nat.mul 1 r.length = r.length from Nat.one_mul _]
    have key : ∀ (l : List D) (k : List D → Option X), readK 0 l.length (l.map fun d => Cell.o d 0) k = k l := by
      intro l
      induction l with
      | nil => exact fun k => rfl
      | cons a l ih => exact fun k => ih fun ds => k (a :: ds)
    exact funext fun k => key r k
  simp only [srcK, hb, cond_true, hoy, hrd, logO, e1]
  simp only [hox]
  have hidx : Nat.add 0 (Nat.mul len r.length) = ds.length := by rw [hds]; exact Nat.zero_add _
  rw [hidx, growK_map ds cur _ hcur]
  simp only [List.append_nil, natK_eq, objOutK, e2, T.setK_eq]
  have e3 : Nat.add len (Nat.succ 0) = len + 1 := rfl
  rw [e3, Nat.ble_eq_true_of_le (show len + 1 ≤ 2147483648 from hmax)]
  exact h2
end
def flipC (c : Cnt) : Cnt := ⟨!c.back, c.many, c.number⟩
theorem rev_getD {l : List Int} {j : Nat} (h : j < l.length) : l.getD (l.length - 1 - j) 0 = l.reverse.getD j 0 := by
  rw [List.getD_eq_getElem?_getD, List.getD_eq_getElem?_getD, List.getElem?_reverse h]
theorem flip_at {cs : List Cnt} {q : Nat} (h : q < cs.length) : (cs.map flipC).getD q default = flipC (cs.getD q default) := by
  simp [List.getD, h]
noncomputable def st3C (d1 d2 : D) (wr off : Int) : C := .cells false [.o d1 0, .o d2 0, .o (.i .i64 wr) 0, .o (.i .i64 off) 0] 1
theorem st3C_kp {d1 d2 : D} {wr off : Int} {n : Nat} (h1 : Kp n d1) (h2 : Kp n d2) : KpC n (st3C d1 d2 wr off) := by
  refine KpL.all ?_
  simp [KpL, Kp, Cell.d, Pu, h1, h2]
theorem map_kp {L : List Int} {st n m : Nat} : KpC n (.cells false ((L.map fun x => D.i .i64 x).map fun d => Cell.o d st) m) := fun c hc => by
  obtain ⟨d, hd, rfl⟩ := List.mem_map.1 hc
  obtain ⟨x, _, rfl⟩ := List.mem_map.1 hd
  simp [Kp, Cell.d, Pu]
set_option maxHeartbeats 1000000 in
theorem c_turned (l : List Int) (cs : List Cnt) (wr off : Int) (h0 : 0 < l.length) (hl : l.length ≤ 1000) (hn : cs.length ≤ 1000) : PureF Try.prog p59.ix [.ag [.lst 1 (ints l), .lst 3 (rows cntD cs), .i .i64 wr, .i .i64 off]] (.ag [.lst 1 (ints l.reverse), .lst 3 (rows cntD (cs.map flipC)), .i .i64 wr, .i .i64 off]) := by
  have e1 := ints_length l
  have e2 := rows_length cntD cs
  have hRl : l.reverse.length = l.length := List.length_reverse
  have hgR := fun j (h : j < l.length) => rev_getD h
  have hfl : (cs.map flipC).length = cs.length := List.length_map _
  have hfa := fun q (h : q < cs.length) => flip_at h
  generalize l.reverse = R at *
  generalize hFF : cs.map flipC = FF at *
  refine PureF.run fn58 (by simp) (by simp [PuL, PuE, Pu, pu_ints, pu_cnts]) ?_; conv => whnf
  repeat' first | ((first | with_reducible apply WB.tt | with_reducible apply WB.ff | refine Rn.seq ?_ | refine Rn.reg ?_ | refine Rn.drw ?_ | refine Rn.blk ?_ | refine Rn.skip ?_ | refine Rn.ret ?_ | refine Rn.exit ?_ | refine Rn.cond rfl ?_ | refine And.intro (InR.i64 (by omega) (by omega)) ?_ | refine And.intro (show _ ≠ (0 : Int) by omega) ?_ | refine WIx.intsN (by omega) ?_ | refine WIx.rowsN (by omega) ?_) <;> conv => whnf)
  refine Rn.loop (fun j : Nat => match j with
    | 0 => ⟨(.n (.n (.n .e (some (.pt (.i .h) 0 0)) .e) (some (.pt .h 0 0)) .e) none (.n (.n .e (some (.i .i64 (((ints l).length : Int) - 1))) .e) (some (.pt (.o .h) 0 0)) .e)), (.n (.n .e (some (z4C)) .e) (some (rowC l cs wr off)) (.n .e (some (st3C .ns .ns wr off)) .e)), .o (.o .h), none⟩
    | j + 1 => ⟨(.n (.n (.n .e (some (.pt (.i .h) 0 0)) .e) (some (.pt .h 0 0)) .e) none (.n (.n .e (some (.i .i64 (((ints l).length : Int) - 1 - ((j + 1 : Nat) : Int)))) .e) (some (.pt (.o .h) 0 0)) .e)), (.n (.n .e (some (z4C)) .e) (some (rowC l cs wr off)) (.n (.n .e (some (.cells false (((R.take (j + 1)).map fun n => D.i .i64 n).map fun d => Cell.o d j) (j + 1))) .e) (some (st3C (.sl (.i (.o .h)) 0 (j + 1) j 1) .ns wr off)) .e)), .o (.i .h), none⟩) (fun j => j ≤ l.length) (fun j => l.length - j) 0 ?_ ?_ ?_
  · refine X.le.mk ?_ ?_ (Nat.le_refl _) rfl rfl
    · (repeat' first | exact T.le_e _ | refine T.le_some ?_ rfl ?_ | refine T.le_none ?_ ?_)
    · (repeat' first | exact T.le_e _ | refine T.le_some ?_ rfl ?_ | refine T.le_none ?_ ?_ | refine T.le_ee ?_ ?_)
  · exact Nat.zero_le _
  rintro (_ | j) hj
  · have hix : ((ints l).length : Int) - 1 = ((l.length - 1 - 0 : Nat) : Int) := by omega
    have hg := hgR 0 h0
    have hl1 : l.length - 1 - 0 < l.length := by omega
    conv => whnf
    repeat' first | ((first | with_reducible apply WB.tt | with_reducible apply WB.ff | refine Rn.seq ?_ | refine Rn.reg ?_ | refine Rn.drw ?_ | refine Rn.blk ?_ | refine Rn.skip ?_ | refine Rn.ret ?_ | refine Rn.exit ?_ | refine Rn.cond rfl ?_ | refine And.intro (InR.i64 (by omega) (by omega)) ?_ | refine And.intro (show _ ≠ (0 : Int) by omega) ?_ | refine WIx.intsN (by omega) ?_ | refine WIx.rowsN (by omega) ?_) <;> conv => whnf)
    refine WB.fT (decide_eq_true (by omega)) ?_; conv => whnf
    rw [hix]
    repeat' first | ((first | with_reducible apply WB.tt | with_reducible apply WB.ff | refine Rn.seq ?_ | refine Rn.reg ?_ | refine Rn.drw ?_ | refine Rn.blk ?_ | refine Rn.skip ?_ | refine Rn.ret ?_ | refine Rn.exit ?_ | refine Rn.cond rfl ?_ | refine And.intro (InR.i64 (by omega) (by omega)) ?_ | refine And.intro (show _ ≠ (0 : Int) by omega) ?_ | refine WIx.intsN (by omega) ?_ | refine WIx.rowsN (by omega) ?_) <;> conv => whnf)
    rw [hg]
    refine WSt.app_firstL (r := [_]) rfl (.inl rfl) rfl rfl rfl rfl ?_; conv => whnf
    repeat' first | ((first | with_reducible apply WB.tt | with_reducible apply WB.ff | refine Rn.seq ?_ | refine Rn.reg ?_ | refine Rn.drw ?_ | refine Rn.blk ?_ | refine Rn.skip ?_ | refine Rn.ret ?_ | refine Rn.exit ?_ | refine Rn.cond rfl ?_ | refine And.intro (InR.i64 (by omega) (by omega)) ?_ | refine And.intro (show _ ≠ (0 : Int) by omega) ?_ | refine WIx.intsN (by omega) ?_ | refine WIx.rowsN (by omega) ?_) <;> conv => whnf)
    refine Again.to 1 (by omega) (by omega) (Nat.le_of_ble_eq_true rfl) ?_
    have ht : R.take 1 = [R.getD 0 0] := by rw [take_succ_getD (j := 0) (d := 0) (by omega)]; simp
    refine Shr.of ?_ ?_ rfl rfl
    · (repeat' first | exact Rel.e | refine Rel.some ?_ ?_ ?_ | refine Rel.none ?_ ?_ | refine Rel.ee ?_ ?_)
      all_goals show Fz _ _ _ _
      all_goals first | exact .kpt (show _ < 6 by simp [Pos.nat]) | (refine Fz.i ?_; omega) | (refine Fz.i ?_; show ((l.length - 1 - 0 : Nat) : Int) - 1 = ((l.length - 1 - 0 : Nat) : Int) - ((0 + 1 : Nat) : Int); rfl)
    · (repeat' first | exact Rel.e | refine Rel.some ?_ ?_ ?_ | refine Rel.none ?_ ?_ | refine Rel.ee ?_ ?_)
      all_goals first
        | exact RO'.of (show _ < 6 by simp [Pos.nat]) (rowC_sh l cs wr off)
        | exact RO'.of (show _ < 6 by simp [Pos.nat]) (ShC.kp (z4C_kp _))
        | exact RO'.of (show _ < 6 by simp [Pos.nat]) (ShC.kp (st3C_kp (by simp [Kp, Pos.nat]) (by simp [Kp, Pu])))
        | (refine RO'.of (show _ < 6 by simp [Pos.nat]) ?_
           show ShC _ _ _ (.cells false (((R.take 1).map fun n => D.i .i64 n).map fun d => Cell.o d 0) 1)
           rw [ht]
           exact ShC.same (ShC.cn (.pu trivial) ShC.nl))
  · conv => whnf
    repeat' first | ((first | with_reducible apply WB.tt | with_reducible apply WB.ff | refine Rn.seq ?_ | refine Rn.reg ?_ | refine Rn.drw ?_ | refine Rn.blk ?_ | refine Rn.skip ?_ | refine Rn.ret ?_ | refine Rn.exit ?_ | refine Rn.cond rfl ?_ | refine And.intro (InR.i64 (by omega) (by omega)) ?_ | refine And.intro (show _ ≠ (0 : Int) by omega) ?_ | refine WIx.intsN (by omega) ?_ | refine WIx.rowsN (by omega) ?_) <;> conv => whnf)
    refine WB.dec (fun h => ?_) (fun h => ?_) <;> conv => whnf
    · have hlt : j + 1 < l.length := by omega
      have hix : ((ints l).length : Int) - 1 - ((j + 1 : Nat) : Int) = ((l.length - 1 - (j + 1) : Nat) : Int) := by omega
      have hg := hgR (j + 1) hlt
      have hl1 : l.length - 1 - (j + 1) < l.length := by omega
      rw [hix]
      repeat' first | ((first | with_reducible apply WB.tt | with_reducible apply WB.ff | refine Rn.seq ?_ | refine Rn.reg ?_ | refine Rn.drw ?_ | refine Rn.blk ?_ | refine Rn.skip ?_ | refine Rn.ret ?_ | refine Rn.exit ?_ | refine Rn.cond rfl ?_ | refine And.intro (InR.i64 (by omega) (by omega)) ?_ | refine And.intro (show _ ≠ (0 : Int) by omega) ?_ | refine WIx.intsN (by omega) ?_ | refine WIx.rowsN (by omega) ?_) <;> conv => whnf)
      rw [hg]
      refine WSt.app_oneL (ds := (R.take (j + 1)).map fun n => D.i .i64 n) (r := [_]) rfl rfl rfl rfl rfl rfl (by simp; omega) rfl rfl (by omega) rfl ?_; conv => whnf
      repeat' first | ((first | with_reducible apply WB.tt | with_reducible apply WB.ff | refine Rn.seq ?_ | refine Rn.reg ?_ | refine Rn.drw ?_ | refine Rn.blk ?_ | refine Rn.skip ?_ | refine Rn.ret ?_ | refine Rn.exit ?_ | refine Rn.cond rfl ?_ | refine And.intro (InR.i64 (by omega) (by omega)) ?_ | refine And.intro (show _ ≠ (0 : Int) by omega) ?_ | refine WIx.intsN (by omega) ?_ | refine WIx.rowsN (by omega) ?_) <;> conv => whnf)
      refine Again.to (j + 2) (by omega) (by omega) (Nat.le_of_ble_eq_true rfl) ?_
      refine Shr.of ?_ ?_ rfl rfl
      · (repeat' first | exact Rel.e | refine Rel.some ?_ ?_ ?_ | refine Rel.none ?_ ?_ | refine Rel.ee ?_ ?_)
        all_goals show Fz _ _ _ _
        all_goals first | exact .kpt (show _ < 6 by simp [Pos.nat]) | (refine Fz.i ?_; omega)
      · (repeat' first | exact Rel.e | refine Rel.some ?_ ?_ ?_ | refine Rel.none ?_ ?_ | refine Rel.ee ?_ ?_)
        all_goals first
          | exact RO'.of (show _ < 6 by simp [Pos.nat]) (rowC_sh l cs wr off)
          | exact RO'.of (show _ < 6 by simp [Pos.nat]) (ShC.kp (z4C_kp _))
          | exact RO'.of (show _ < 6 by simp [Pos.nat]) (ShC.kp (st3C_kp (by simp [Kp, Pos.nat]) (by simp [Kp, Pu])))
          | (refine RO'.of (show _ < 6 by simp [Pos.nat]) ?_
             show ShC _ _ (.cells false ((((R.take (j + 1)).map fun n => D.i .i64 n).map fun d => Cell.o d j) ++ [_].map fun d => Cell.o d (j + 1)) (j + 1 + 1)) (.cells false (((R.take (j + 1 + 1)).map fun n => D.i .i64 n).map fun d => Cell.o d (j + 1)) (j + 1 + 1))
             rw [take_succ_getD (j := j + 1) (d := 0) (by omega), List.map_append]
             exact ShC.grown (by omega) (PuL_iff.2 fun d hd => by
               rcases List.mem_append.1 hd with hd | hd
               · exact PuL_iff.1 (puL_map_i _) d hd
               · simp at hd; subst hd; exact trivial))
    · have hjl : l.length = j + 1 := by omega
      have hRt : R.take (j + 1) = R := List.take_of_length_le (by omega)
      rw [hRt]
      repeat' first | ((first | with_reducible apply WB.tt | with_reducible apply WB.ff | refine Rn.seq ?_ | refine Rn.reg ?_ | refine Rn.drw ?_ | refine Rn.blk ?_ | refine Rn.skip ?_ | refine Rn.ret ?_ | refine Rn.exit ?_ | refine Rn.cond rfl ?_ | refine And.intro (InR.i64 (by omega) (by omega)) ?_ | refine And.intro (show _ ≠ (0 : Int) by omega) ?_ | refine WIx.intsN (by omega) ?_ | refine WIx.rowsN (by omega) ?_) <;> conv => whnf)
      refine Rn.loop (fun q : Nat => match q with
        | 0 => ⟨(.n (.n (.n .e (some (.pt (.i .h) 0 0)) .e) (some (.pt .h 0 0)) (.n .e (some (.i .i64 0)) .e)) none (.n .e (some (.pt (.o .h) 0 0)) .e)), (.n (.n .e (some (z4C)) .e) (some (rowC l cs wr off)) (.n (.n .e (some (.cells false ((R.map fun n => D.i .i64 n).map fun d => Cell.o d j) (j + 1))) .e) (some (st3C (.sl (.i (.o .h)) 0 (j + 1) j 1) .ns wr off)) .e)), .o (.i .h), none⟩
        | q + 1 => ⟨(.n (.n (.n .e (some (.pt (.i .h) 0 0)) .e) (some (.pt .h 0 0)) (.n .e (some (.i .i64 ((q + 1 : Nat) : Int))) .e)) none (.n .e (some (.pt (.o .h) 0 0)) .e)), (.n (.n (.n (.n .e (some (.cells false ((cells3 FF (q + 1)).map fun d => Cell.o d q) (q + 1))) .e) none .e) (some (z4C)) .e) (some (rowC l cs wr off)) (.n (.n .e (some (.cells false ((R.map fun n => D.i .i64 n).map fun d => Cell.o d j) (j + 1))) .e) (some (st3C (.sl (.i (.o .h)) 0 (j + 1) j 1) (.sl (.o (.o (.o .h))) 0 (q + 1) q 3) wr off)) .e)), .i (.o (.o .h)), none⟩) (fun q => q ≤ cs.length) (fun q => cs.length - q) 0 ?_ ?_ ?_
      · refine X.le.mk ?_ ?_ (Nat.le_refl _) rfl rfl
        · (repeat' first | exact T.le_e _ | refine T.le_some ?_ rfl ?_ | refine T.le_none ?_ ?_)
        · (repeat' first | exact T.le_e _ | refine T.le_some ?_ rfl ?_ | refine T.le_none ?_ ?_ | refine T.le_ee ?_ ?_)
      · exact Nat.zero_le _
      rintro (_ | q) hq
      · conv => whnf
        repeat' first | ((first | with_reducible apply WB.tt | with_reducible apply WB.ff | refine Rn.seq ?_ | refine Rn.reg ?_ | refine Rn.drw ?_ | refine Rn.blk ?_ | refine Rn.skip ?_ | refine Rn.ret ?_ | refine Rn.exit ?_ | refine Rn.cond rfl ?_ | refine And.intro (InR.i64 (by omega) (by omega)) ?_ | refine And.intro (show _ ≠ (0 : Int) by omega) ?_ | refine WIx.intsN (by omega) ?_ | refine WIx.rowsN (by omega) ?_) <;> conv => whnf)
        refine WB.dec (fun h => ?_) (fun h => ?_) <;> conv => whnf
        · have hlt : 0 < cs.length := by omega
          have hf := hfa 0 hlt
          repeat' first | ((first | with_reducible apply WB.tt | with_reducible apply WB.ff | refine Rn.seq ?_ | refine Rn.reg ?_ | refine Rn.drw ?_ | refine Rn.blk ?_ | refine Rn.skip ?_ | refine Rn.ret ?_ | refine Rn.exit ?_ | refine Rn.cond rfl ?_ | refine And.intro (InR.i64 (by omega) (by omega)) ?_ | refine And.intro (show _ ≠ (0 : Int) by omega) ?_ | refine WIx.intsN (by omega) ?_ | refine WIx.rowsN (by omega) ?_) <;> conv => whnf)
          refine WSt.app_first (r := cntD (FF.getD 0 default)) rfl (.inl rfl) rfl rfl (by rw [hf]; rfl) rfl ?_; conv => whnf
          repeat' first | ((first | with_reducible apply WB.tt | with_reducible apply WB.ff | refine Rn.seq ?_ | refine Rn.reg ?_ | refine Rn.drw ?_ | refine Rn.blk ?_ | refine Rn.skip ?_ | refine Rn.ret ?_ | refine Rn.exit ?_ | refine Rn.cond rfl ?_ | refine And.intro (InR.i64 (by omega) (by omega)) ?_ | refine And.intro (show _ ≠ (0 : Int) by omega) ?_ | refine WIx.intsN (by omega) ?_ | refine WIx.rowsN (by omega) ?_) <;> conv => whnf)
          refine Again.to 1 (by omega) (by omega) (Nat.le_of_ble_eq_true rfl) ?_
          have ht : cells3 FF 1 = cntD (FF.getD 0 default) := by rw [cells3_succ FF (n := 0) (by omega)]; simp [cells3, rows]
          refine Shr.of ?_ ?_ rfl rfl
          · (repeat' first | exact Rel.e | refine Rel.some ?_ ?_ ?_ | refine Rel.none ?_ ?_ | refine Rel.ee ?_ ?_)
            all_goals show Fz _ _ _ _
            all_goals first | exact .kpt (show _ < 9 by simp [Pos.nat]) | exact .pu trivial
          · (repeat' first | exact Rel.e | refine Rel.some ?_ ?_ ?_ | refine Rel.none ?_ ?_ | refine Rel.ee ?_ ?_)
            all_goals first
              | exact RO'.of (show _ < 9 by simp [Pos.nat]) (rowC_sh l cs wr off)
              | exact RO'.of (show _ < 9 by simp [Pos.nat]) (ShC.kp (z4C_kp _))
              | exact RO'.of (show _ < 9 by simp [Pos.nat]) (ShC.kp (st3C_kp (by simp [Kp, Pos.nat]) (by simp [Kp, Pos.nat])))
              | exact RO'.of (show _ < 9 by simp [Pos.nat]) (ShC.kp map_kp)
              | (refine RO'.of (show _ < 9 by simp [Pos.nat]) ?_
                 show ShC _ _ (.cells false ((cntD (FF.getD 0 default)).map fun d => Cell.o d 0) 1) (.cells false ((cells3 FF 1).map fun d => Cell.o d 0) 1)
                 rw [ht]
                 exact ShC.same (ShC.cn (.pu trivial) (ShC.cn (.pu trivial) (ShC.cn (.pu trivial) ShC.nl))))
        · repeat' first | ((first | with_reducible apply WB.tt | with_reducible apply WB.ff | refine Rn.seq ?_ | refine Rn.reg ?_ | refine Rn.drw ?_ | refine Rn.blk ?_ | refine Rn.skip ?_ | refine Rn.ret ?_ | refine Rn.exit ?_ | refine Rn.cond rfl ?_ | refine And.intro (InR.i64 (by omega) (by omega)) ?_ | refine And.intro (show _ ≠ (0 : Int) by omega) ?_ | refine WIx.intsN (by omega) ?_ | refine WIx.rowsN (by omega) ?_) <;> conv => whnf)
          have hc0 : FF = [] := List.length_eq_zero_iff.1 (by omega)
          rw [hc0]
          refine ⟨.inr rfl, _, rfl, .ag (.cons ?_ (.cons .ns (.cons (.pu trivial) (.cons (.pu trivial) .nil))))⟩
          exact Frz.whole (cs := (R.map fun n => D.i .i64 n).map fun d => Cell.o d j) (cur := j + 1) rfl (by rw [ints_length]; omega) (ints_one _) (by rw [ints_flatten]) (pu_ints _)
      · conv => whnf
        repeat' first | ((first | with_reducible apply WB.tt | with_reducible apply WB.ff | refine Rn.seq ?_ | refine Rn.reg ?_ | refine Rn.drw ?_ | refine Rn.blk ?_ | refine Rn.skip ?_ | refine Rn.ret ?_ | refine Rn.exit ?_ | refine Rn.cond rfl ?_ | refine And.intro (InR.i64 (by omega) (by omega)) ?_ | refine And.intro (show _ ≠ (0 : Int) by omega) ?_ | refine WIx.intsN (by omega) ?_ | refine WIx.rowsN (by omega) ?_) <;> conv => whnf)
        refine WB.dec (fun h => ?_) (fun h => ?_) <;> conv => whnf
        · have hlt : q + 1 < cs.length := by omega
          have hf := hfa (q + 1) hlt
          repeat' first | ((first | with_reducible apply WB.tt | with_reducible apply WB.ff | refine Rn.seq ?_ | refine Rn.reg ?_ | refine Rn.drw ?_ | refine Rn.blk ?_ | refine Rn.skip ?_ | refine Rn.ret ?_ | refine Rn.exit ?_ | refine Rn.cond rfl ?_ | refine And.intro (InR.i64 (by omega) (by omega)) ?_ | refine And.intro (show _ ≠ (0 : Int) by omega) ?_ | refine WIx.intsN (by omega) ?_ | refine WIx.rowsN (by omega) ?_) <;> conv => whnf)
          refine WSt.app_one (ds := cells3 FF (q + 1)) (r := cntD (FF.getD (q + 1) default)) rfl rfl rfl (by rw [hf]; rfl) rfl rfl (cells3_length FF (by omega)) rfl rfl (by omega) rfl ?_; conv => whnf
          repeat' first | ((first | with_reducible apply WB.tt | with_reducible apply WB.ff | refine Rn.seq ?_ | refine Rn.reg ?_ | refine Rn.drw ?_ | refine Rn.blk ?_ | refine Rn.skip ?_ | refine Rn.ret ?_ | refine Rn.exit ?_ | refine Rn.cond rfl ?_ | refine And.intro (InR.i64 (by omega) (by omega)) ?_ | refine And.intro (show _ ≠ (0 : Int) by omega) ?_ | refine WIx.intsN (by omega) ?_ | refine WIx.rowsN (by omega) ?_) <;> conv => whnf)
          refine Again.to (q + 2) (by omega) (by omega) (Nat.le_of_ble_eq_true rfl) ?_
          refine Shr.of ?_ ?_ rfl rfl
          · (repeat' first | exact Rel.e | refine Rel.some ?_ ?_ ?_ | refine Rel.none ?_ ?_ | refine Rel.ee ?_ ?_)
            all_goals show Fz _ _ _ _
            all_goals first | exact .kpt (show _ < 9 by simp [Pos.nat]) | exact .pu trivial
          · (repeat' first | exact Rel.e | refine Rel.some ?_ ?_ ?_ | refine Rel.none ?_ ?_ | refine Rel.ee ?_ ?_)
            all_goals first
              | exact RO'.of (show _ < 9 by simp [Pos.nat]) (rowC_sh l cs wr off)
              | exact RO'.of (show _ < 9 by simp [Pos.nat]) (ShC.kp (z4C_kp _))
              | exact RO'.of (show _ < 9 by simp [Pos.nat]) (ShC.kp (st3C_kp (by simp [Kp, Pos.nat]) (by simp [Kp, Pos.nat])))
              | exact RO'.of (show _ < 9 by simp [Pos.nat]) (ShC.kp map_kp)
              | (refine RO'.of (show _ < 9 by simp [Pos.nat]) ?_
                 show ShC _ _ (.cells false (((cells3 FF (q + 1)).map fun d => Cell.o d q) ++ (cntD (FF.getD (q + 1) default)).map fun d => Cell.o d (q + 1)) (q + 1 + 1)) (.cells false ((cells3 FF (q + 1 + 1)).map fun d => Cell.o d (q + 1)) (q + 1 + 1))
                 rw [cells3_succ FF (n := q + 1) (by omega)]
                 refine ShC.grown (by omega) (PuL_iff.2 fun d hd => ?_)
                 rcases List.mem_append.1 hd with hd | hd
                 · exact PuL_iff.1 (pu_cells3 FF _) d hd
                 · simp only [cntD, List.mem_cons, List.mem_nil_iff, or_false] at hd
                   rcases hd with rfl | rfl | rfl <;> exact trivial)
        · repeat' first | ((first | with_reducible apply WB.tt | with_reducible apply WB.ff | refine Rn.seq ?_ | refine Rn.reg ?_ | refine Rn.drw ?_ | refine Rn.blk ?_ | refine Rn.skip ?_ | refine Rn.ret ?_ | refine Rn.exit ?_ | refine Rn.cond rfl ?_ | refine And.intro (InR.i64 (by omega) (by omega)) ?_ | refine And.intro (show _ ≠ (0 : Int) by omega) ?_ | refine WIx.intsN (by omega) ?_ | refine WIx.rowsN (by omega) ?_) <;> conv => whnf)
          have hq2 : q + 1 = cs.length := by omega
          refine ⟨.inr rfl, _, rfl, .ag (.cons ?_ (.cons ?_ (.cons (.pu trivial) (.cons (.pu trivial) .nil))))⟩
          · exact Frz.whole (cs := (R.map fun n => D.i .i64 n).map fun d => Cell.o d j) (cur := j + 1) rfl (by rw [ints_length]; omega) (ints_one _) (by rw [ints_flatten]) (pu_ints _)
          · exact Frz.whole (cs := (cells3 FF (q + 1)).map fun d => Cell.o d q) (cur := q + 1) rfl (by rw [rows_length]; omega) (cnts_three _) (by unfold cells3; rw [List.take_of_length_le (by omega)]) (pu_cnts _)
end Go.Ev

namespace Go.Ev
open Go.Proofs
set_option maxRecDepth 100000
theorem sum_rev : ∀ (t : List Int), t.reverse.sum = t.sum
  | [] => rfl
  | a :: t => by
    rw [List.reverse_cons, List.sum_append, sum_rev t, List.sum_cons]
    simp [Int.add_comm]
theorem sumP_rev {t : List Int} {f k : Nat} (h : f + k ≤ t.length) : sumP t.reverse f k = sumP t (t.length - f - k) k := by
  unfold sumP
  rw [List.drop_reverse, List.take_reverse, sum_rev, List.length_take, Nat.min_eq_left (by omega), List.drop_take]
  congr 2
  omega
theorem sumT_rev {t : List Int} {f u : Int} {n : Nat} (hn : t.length = n) (h0 : 0 ≤ f) (h1 : f ≤ u) (h2 : u < n) : sumT ((n : Int) - 1 - u) ((n : Int) - 1 - f) t.reverse = sumT f u t := by
  unfold sumT
  rw [sumP_rev (by omega)]
  congr 1
  · omega
  · omega
theorem errN_rev {t : List Int} {bk : Bool} {many : Int} (h1 : 0 ≤ many) (h2 : many ≤ t.length) : errN t.reverse (!bk) many = errN t bk many := by
  unfold errN
  rw [List.length_reverse]
  cases bk with
  | true =>
    show (if (false : Bool) = true then _ else _) = (if (true : Bool) = true then _ else _)
    rw [if_neg (by decide), if_pos rfl, sumP_rev (by omega)]
    congr 1
  | false =>
    show (if (true : Bool) = true then _ else _) = (if (false : Bool) = true then _ else _)
    rw [if_pos rfl, if_neg (by decide), sumP_rev (by omega)]
    congr 1
    omega
theorem ec_rev {t : List Int} {c : Cnt} (h : cntIn t.length c) : ec t.reverse (flipC c) = ec t c := by
  obtain ⟨h1, h2, _⟩ := h
  show errR t.reverse (!c.back) c.many c.number = errR t c.back c.many c.number
  unfold errR
  rw [errN_rev h1 h2]
theorem wrongR_rev {t : List Int} {cs : List Cnt} {off : Int} (h : ∀ c ∈ cs, cntIn t.length c) : wrongR (cs.map flipC) off t.reverse = wrongR cs off t := by
  unfold wrongR
  rw [List.all_map, List.countP_map]
  have e1 : cs.all ((fun c => decide (ec t.reverse c ≤ off)) ∘ flipC) = cs.all fun c => decide (ec t c ≤ off) := by
    rw [Bool.eq_iff_iff, List.all_eq_true, List.all_eq_true]
    constructor
    · intro hc c hm
      have := hc c hm
      rw [Function.comp, ec_rev (h c hm)] at this
      exact this
    · intro hc c hm
      rw [Function.comp, ec_rev (h c hm)]
      exact hc c hm
  have e2 : cs.countP ((fun c => decide (0 < ec t.reverse c)) ∘ flipC) = cs.countP fun c => decide (0 < ec t c) :=
    List.countP_congr fun c hm => by rw [Function.comp, ec_rev (h c hm)]
  rw [e1, e2]
theorem truth_rev {l t : List Int} : isTruthR l.reverse t.reverse = true ↔ isTruthR l t = true := by
  have key : ∀ (l t : List Int), isTruthR l t = true → isTruthR l.reverse t.reverse = true := fun l t h => by
    unfold isTruthR at h ⊢
    rw [Bool.and_eq_true, decide_eq_true_iff, List.all_eq_true] at h ⊢
    refine ⟨by simp [h.1], fun i hi => ?_⟩
    have hi := List.mem_range.1 hi
    rw [List.length_reverse] at hi
    have := h.2 (t.length - 1 - i) (List.mem_range.2 (by omega))
    unfold fitB at this ⊢
    rw [← rev_getD hi, ← rev_getD (show i < l.length by omega), ← h.1]
    exact this
  exact ⟨fun h => by have := key _ _ h; rwa [List.reverse_reverse, List.reverse_reverse] at this, key l t⟩
section
variable {l : List Int} {cs : List Cnt} {wr off : Int}
theorem fault_rev (hF : faultR l cs wr off = 0) : faultR l.reverse (cs.map flipC) wr off = 0 := by
  unfold faultR at hF ⊢
  rw [List.length_reverse, List.length_map]
  split at hF
  · cases hF
  · rename_i h1
    rw [if_neg h1]
    split at hF
    · cases hF
    · rename_i h2
      rw [if_neg h2]
      split at hF
      · rename_i h3
        rw [if_pos (by rw [List.all_reverse]; exact h3)]
        split at hF
        · rename_i h4
          rw [if_pos (by rw [List.all_map]; exact h4)]
        · cases hF
      · cases hF
theorem unk_rev : unk l.reverse = unk l := List.countP_reverse
theorem truR_rev (hF : faultR l cs wr off = 0) {t : List Int} : t.reverse ∈ truR l.reverse (cs.map flipC) wr off ↔ t ∈ truR l cs wr off := by
  obtain ⟨f1, f2, f3, f4⟩ := fault0 hF
  rw [mem_truRy, mem_truRy, truth_rev]
  constructor
  · rintro ⟨h1, h2⟩
    have hl : t.length = l.length := (truth_bits h1).1
    rw [wrongR_rev (fun c hc => by rw [hl]; exact f4 c hc)] at h2
    exact ⟨h1, h2⟩
  · rintro ⟨h1, h2⟩
    have hl : t.length = l.length := (truth_bits h1).1
    rw [wrongR_rev (fun c hc => by rw [hl]; exact f4 c hc)]
    exact ⟨h1, h2⟩
theorem truR_rev' (hF : faultR l cs wr off = 0) {t : List Int} : t ∈ truR l.reverse (cs.map flipC) wr off ↔ t.reverse ∈ truR l cs wr off := by
  rw [← truR_rev hF, List.reverse_reverse]
theorem tru_nil_rev (hF : faultR l cs wr off = 0) : truR l.reverse (cs.map flipC) wr off = [] ↔ truR l cs wr off = [] := by
  constructor
  · intro h
    refine List.eq_nil_iff_forall_not_mem.2 fun t ht => ?_
    have := (truR_rev hF).2 ht
    rw [h] at this; cases this
  · intro h
    refine List.eq_nil_iff_forall_not_mem.2 fun t ht => ?_
    have := (truR_rev' hF).1 ht
    rw [h] at this; cases this
theorem rev_at' {t : List Int} {i n : Nat} (hn : t.length = n) (h : i < n) : t.reverse.getD (n - 1 - i) 0 = t.getD i 0 := by
  have := rev_getD (l := t.reverse) (j := i) (by rw [List.length_reverse]; omega)
  rw [List.length_reverse, List.reverse_reverse, hn] at this
  exact this
theorem lk_rev {f u : Int} (hF : faultR l cs wr off = 0) (h0 : 0 ≤ f) (h1 : f ≤ u) (h2 : u < l.length) (hne : truR l cs wr off ≠ []) : lkN ((l.length : Int) - 1 - u) ((l.length : Int) - 1 - f) l.reverse.length (truR l.reverse (cs.map flipC) wr off) = lkN f u l.length (truR l cs wr off) := by
  have hF' := fault_rev hF
  have hne' : truR l.reverse (cs.map flipC) wr off ≠ [] := fun h => hne ((tru_nil_rev hF).1 h)
  have L := tru_lks (f := f) (t := u) hF h0 h1 h2
  have L' := tru_lks (f := (l.length : Int) - 1 - u) (t := (l.length : Int) - 1 - f) hF' (by omega) (by omega) (by rw [List.length_reverse]; omega)
  rw [List.length_reverse] at L' ⊢
  have hπ : ∀ j, j < l.length → ∃ i, i < l.length ∧ l.length - 1 - i = j := fun j hj => ⟨l.length - 1 - j, by omega, by omega⟩
  refine Int.le_antisymm ?_ ?_
  · refine lk_mono (π := fun i => l.length - 1 - i) hπ _ _ _ (Nat.le_refl _) hne' L' L fun x hx => ⟨x.reverse, (truR_rev' hF).1 hx, ?_, fun i hi => rev_at' (L' x hx).1 hi⟩
    have := sumT_rev (t := x.reverse) (f := f) (u := u) (by rw [List.length_reverse]; exact (L' x hx).1) h0 h1 h2
    rw [List.reverse_reverse] at this
    exact this.symm
  · refine lk_mono (π := fun i => l.length - 1 - i) hπ _ _ _ (Nat.le_refl _) hne L L' fun x hx => ⟨x.reverse, (truR_rev hF).2 hx, sumT_rev (L x hx).1 h0 h1 h2, fun i hi => rev_at' (L x hx).1 hi⟩
theorem bnd_rev {f u : Int} (hF : faultR l cs wr off = 0) (h0 : 0 ≤ f) (h1 : f ≤ u) (h2 : u < l.length) (hne : truR l cs wr off ≠ []) : loR ((l.length : Int) - 1 - u) ((l.length : Int) - 1 - f) (truR l.reverse (cs.map flipC) wr off) = loR f u (truR l cs wr off) ∧ hiR ((l.length : Int) - 1 - u) ((l.length : Int) - 1 - f) (truR l.reverse (cs.map flipC) wr off) = hiR f u (truR l cs wr off) := by
  have hF' := fault_rev hF
  have hne' : truR l.reverse (cs.map flipC) wr off ≠ [] := fun h => hne ((tru_nil_rev hF).1 h)
  have L := tru_lks (f := f) (t := u) hF h0 h1 h2
  have L' := tru_lks (f := (l.length : Int) - 1 - u) (t := (l.length : Int) - 1 - f) hF' (by omega) (by omega) (by rw [List.length_reverse]; omega)
  rw [List.length_reverse] at L'
  obtain ⟨a1, ⟨x, hx, ex⟩, ⟨y, hy, ey⟩⟩ := bnd_spec hne (fun x hx => (L x hx).2.2)
  obtain ⟨b1, ⟨x', hx', ex'⟩, ⟨y', hy', ey'⟩⟩ := bnd_spec hne' (fun x hx => (L' x hx).2.2)
  have k1 : ∀ x ∈ truR l cs wr off, sumT ((l.length : Int) - 1 - u) ((l.length : Int) - 1 - f) x.reverse = sumT f u x := fun x hx => sumT_rev (L x hx).1 h0 h1 h2
  have k2 : ∀ x ∈ truR l.reverse (cs.map flipC) wr off, sumT ((l.length : Int) - 1 - u) ((l.length : Int) - 1 - f) x = sumT f u x.reverse := fun x hx => by
    have := sumT_rev (t := x.reverse) (f := f) (u := u) (by rw [List.length_reverse]; exact (L' x hx).1) h0 h1 h2
    rw [List.reverse_reverse] at this
    exact this
  have q1 := a1 _ ((truR_rev' hF).1 hx')
  have q2 := a1 _ ((truR_rev' hF).1 hy')
  have q3 := b1 _ ((truR_rev hF).2 hx)
  have q4 := b1 _ ((truR_rev hF).2 hy)
  rw [k1 x hx] at q3
  rw [k1 y hy] at q4
  rw [← k2 x' hx'] at q1
  rw [← k2 y' hy'] at q2
  omega
theorem leastF_eq {cs cs' : List Cnt} {off : Int} {L L' : List (List Int)} (h1 : ∀ t ∈ L, ∃ t' ∈ L', wrongR cs' off t' = wrongR cs off t) (h2 : ∀ t' ∈ L', ∃ t ∈ L, wrongR cs off t = wrongR cs' off t') : leastF cs off L = leastF cs' off L' := by
  obtain ⟨b1, _, b3⟩ := best_spec cs off L (-1)
  obtain ⟨c1, _, c3⟩ := best_spec cs' off L' (-1)
  show L.foldl (bestS cs off) (-1) = L'.foldl (bestS cs' off) (-1)
  rcases b1 with b1 | ⟨t, ht, hw, he⟩
  · rcases c1 with c1 | ⟨t, ht, hw, he⟩
    · rw [b1, c1]
    · obtain ⟨s, hs, es⟩ := h2 t ht
      have := b3 s hs (by omega)
      omega
  · obtain ⟨s, hs, es⟩ := h1 t ht
    have q := c3 s hs (by omega)
    rcases c1 with c1 | ⟨t', ht', hw', he'⟩
    · omega
    · obtain ⟨s', hs', es'⟩ := h2 t' ht'
      have q' := b3 s' hs' (by omega)
      omega
theorem least_rev (hF : faultR l cs wr off = 0) : leastF (cs.map flipC) off (allR l.reverse) = leastF cs off (allR l) := by
  obtain ⟨f1, f2, f3, f4⟩ := fault0 hF
  refine leastF_eq (fun t ht => ?_) (fun t ht => ?_)
  · have h := mem_allRy.1 ht
    have h' : isTruthR l t.reverse = true := by rw [← truth_rev, List.reverse_reverse]; exact h
    refine ⟨t.reverse, mem_allRy.2 h', ?_⟩
    have := wrongR_rev (t := t.reverse) (cs := cs) (off := off) (fun c hc => by rw [(truth_bits h').1]; exact f4 c hc)
    rw [List.reverse_reverse] at this
    exact this.symm
  · have h := mem_allRy.1 ht
    exact ⟨t.reverse, mem_allRy.2 (truth_rev.2 h), wrongR_rev (fun c hc => by rw [(truth_bits h).1]; exact f4 c hc)⟩
end
end Go.Ev
