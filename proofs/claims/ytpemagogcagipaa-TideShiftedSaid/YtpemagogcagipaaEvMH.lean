import Derived.Test.YtpemagogcagipaaEvMG
import Derived.Test.YtpemagogcagipaaEvFt
set_option linter.all false
namespace Go.Ev
open Go.Proofs
set_option maxRecDepth 100000
theorem c_to (lo hi : Int) : PureF Try.prog p36.ix [.ag [.i .i64 lo, .i .i64 hi]] (.ag [.i .i64 lo, .i .i64 hi]) := by
  refine PureF.run fn35 (by simp) (by simp [PuL, PuE, Pu]) ?_; conv => whnf
  repeat' first | ((first | (with_reducible first | apply WB.tt | apply WB.ff) | apply Rn.seq | apply Rn.reg | apply Rn.drw | apply Rn.blk | apply Rn.skip | apply Rn.ret | apply Rn.exit | apply Rn.cond rfl | refine i64_ (by omega) (by omega) ?_ | refine ne0_ (by omega) ?_ | refine WIx.intsN (by omega) ?_ | refine WIx.rowsN (by omega) ?_) <;> conv => whnf)
  exact ⟨.inr rfl, _, rfl, .pu (by simp [Pu, PuL, one])⟩
def rgF (l : List Rg) : List D := (rows rgD l).flatten
def mkF (l : List Mk) : List D := (rows mkD l).flatten
theorem rgF_snoc (l : List Rg) (r : Rg) : rgF (l ++ [r]) = rgF l ++ [.i .i64 r.lo, .i .i64 r.hi] := by simp [rgF, rows, rgD]
theorem mkF_snoc (l : List Mk) (m : Mk) : mkF (l ++ [m]) = mkF l ++ [.i .i64 m.fr, .i .i64 m.to, .i .i64 m.lo, .i .i64 m.hi] := by simp [mkF, rows, mkD]
theorem rgF_length (l : List Rg) : (rgF l).length = l.length * 2 := by
  induction l with
  | nil => rfl
  | cons a l ih => show (rgD a ++ rgF l).length = _; rw [List.length_append, ih]; simp [rgD, Nat.add_mul]; omega
theorem mkF_length (l : List Mk) : (mkF l).length = l.length * 4 := by
  induction l with
  | nil => rfl
  | cons a l ih => show (mkD a ++ mkF l).length = _; rw [List.length_append, ih]; simp [mkD, Nat.add_mul]; omega
theorem pu_rgF : ∀ l : List Rg, PuL (rgF l)
  | [] => trivial
  | a :: l => by
    have := pu_rgF l
    show PuL (rgD a ++ rgF l)
    simp [rgD, PuL, Pu, this]
theorem pu_mkF : ∀ l : List Mk, PuL (mkF l)
  | [] => trivial
  | a :: l => by
    have := pu_mkF l
    show PuL (mkD a ++ mkF l)
    simp [mkD, PuL, Pu, this]
theorem rg_two (l : List Rg) : ∀ r ∈ rows rgD l, r.length = 2 := fun r hr => by
  obtain ⟨n, _, rfl⟩ := List.mem_map.1 hr
  rfl
theorem mk_four (l : List Mk) : ∀ r ∈ rows mkD l, r.length = 4 := fun r hr => by
  obtain ⟨n, _, rfl⟩ := List.mem_map.1 hr
  rfl
def resC : C := .cells false [.o (.i .i64 0) 0, .o .ns 0, .o (.i .i64 0) 0, .o .ns 0, .o .ns 0] 1
section
variable (last : Int) (hs : List Rg) (step : Int) (lv : List Int) (ms : List Mk)
def outC (h m : D) : C := .cells false [.o (.i .i64 last) 0, .o h 0, .o (.i .i64 step) 0, .o (.lst 1 (ints lv)) 0, .o m 0] 1
def t1S (j : Nat) : X := match j with
  | 0 => ⟨(.n (.n (.n .e (some (.pt (.i .h) 0 0)) .e) (some (.pt .h 0 0)) .e) none (.n (.n .e (some (.i .i64 0)) .e) (some (.pt (.o .h) 0 0)) .e)), (.n (.n .e (some (resC)) .e) (some (tabC last hs step lv ms)) (.n .e (some (outC last step lv .ns .ns)) .e)), .o (.o .h), none⟩
  | j + 1 => ⟨(.n (.n (.n .e (some (.pt (.i .h) 0 0)) .e) (some (.pt .h 0 0)) .e) none (.n (.n .e (some (.i .i64 ((j + 1 : Nat) : Int))) .e) (some (.pt (.o .h) 0 0)) .e)), (.n (.n .e (some (resC)) .e) (some (tabC last hs step lv ms)) (.n (.n .e (some (.cells false ((rgF (hs.take (j + 1))).map fun d => Cell.o d j) (j + 1))) .e) (some (outC last step lv (.sl (.i (.o .h)) 0 (j + 1) j 2) .ns)) .e)), .o (.i .h), none⟩
def t2S (j : Nat) : X := match j with
  | 0 => ⟨(.n (.n (.n .e (some (.pt (.i .h) 0 0)) .e) (some (.pt .h 0 0)) (.n .e (some (.i .i64 0)) .e)) none (.n .e (some (.pt (.o .h) 0 0)) .e)), (.n (.n .e (some (resC)) .e) (some (tabC last hs step lv ms)) (.n .e (some (outC last step lv (.lst 2 (rows rgD hs)) .ns)) .e)), .o (.o .h), none⟩
  | j + 1 => ⟨(.n (.n (.n .e (some (.pt (.i .h) 0 0)) .e) (some (.pt .h 0 0)) (.n .e (some (.i .i64 ((j + 1 : Nat) : Int))) .e)) none (.n .e (some (.pt (.o .h) 0 0)) .e)), (.n (.n .e (some (resC)) (.n .e (some (.cells false ((mkF (ms.take (j + 1))).map fun d => Cell.o d j) (j + 1))) .e)) (some (tabC last hs step lv ms)) (.n .e (some (outC last step lv (.lst 2 (rows rgD hs)) (.sl (.o (.i .h)) 0 (j + 1) j 4))) .e)), .i (.i .h), none⟩
end
theorem resC_sh {B : Pos → Prop} {ob : T C} : ShC B ob resC resC := ShC.same (ShC.cn (.pu trivial) (ShC.cn (.pu trivial) (ShC.cn (.pu trivial) (ShC.cn (.pu trivial) (ShC.cn (.pu trivial) ShC.nl)))))
theorem outC_sh {last step : Int} {lv : List Int} {h m h' m' : D} {B : Pos → Prop} {ob : T C} (hh : Fz B ob h h') (hm : Fz B ob m m') : ShC B ob (outC last step lv h m) (outC last step lv h' m') := by
  refine .cells fun k c' hc => ?_
  match k, hc with
  | 0, hc => cases hc; exact ⟨_, rfl, fun _ h => h, .pu trivial⟩
  | 1, hc => cases hc; exact ⟨_, rfl, fun _ h => h, hh⟩
  | 2, hc => cases hc; exact ⟨_, rfl, fun _ h => h, .pu trivial⟩
  | 3, hc => cases hc; exact ⟨_, rfl, fun _ h => h, .pu (pu_ints _)⟩
  | 4, hc => cases hc; exact ⟨_, rfl, fun _ h => h, hm⟩
  | k + 5, hc => cases hc
def rc22L : RC :=
  (.seq 
    (.seq 
      (.reg [.u (.mv p6 (.k (.i .i64 0)))])
      (.blk 2 
        (.loop 
          (.seq 
            (.seq 
              (.reg [.u (.mv p34 (.t p6)), .u (.fad p35 (.t p2) 4), .u (.ld1 p36 (.t p35)), .u (.len p37 (.t p36)), .u (.bin p38 .lss (.t p34) (.t p37))])
              (.cond (.t p38) .skip (.exit 2)))
            (.seq 
              (.blk 3 
                (.seq 
                  (.reg [.u (.fad p41 (.t p2) 4), .u (.ld1 p42 (.t p41)), .u (.mv p43 (.t p6)), .u (.ixs p44 4 (.t p42) (.t p43)), .u (.ldn p45 (.t p44) 4), .u (.new p7 [(.i .i64 0), (.i .i64 0), (.i .i64 0), (.i .i64 0)]), .u (.st (.t p7) (.t p45) 4)])
                  (.drw [.u (.fad p46 (.t p4) 4), .u (.ld1 p47 (.t p46)), .u (.fad p48 (.t p7) 0), .u (.ld1 p49 (.t p48)), .u (.fad p50 (.t p7) 1), .u (.ld1 p51 (.t p50)), .u (.fad p52 (.t p7) 2), .u (.ldn p53 (.t p52) 2), .u (.cf (some p54) p36 [(.t p53)]), .u (.bld p55 [(.i .i64 0), (.i .i64 0), (.i .i64 0), (.i .i64 0)] [(0, (1, (.t p49))), (1, (1, (.t p51))), (2, (2, (.t p54)))]), .u (.bsl p56 4 1 [(.i .i64 0), (.i .i64 0), (.i .i64 0), (.i .i64 0)] [(0, (4, (.t p55)))]), .u (.app p57 4 (.t p47) (.t p56)), .u (.fad p58 (.t p4) 4), .u (.st (.t p58) (.t p57) 1)] [0, 1, 0, 4, 0, 16, 0, 64, 192, 508, 1020, 2047, 4095, 8191])))
              (.reg [.u (.mv p39 (.t p6)), .u (.bin p40 .add (.t p39) (.k (.i .i64 1))), .u (.mv p6 (.t p40))]))))))
    (.seq 
      (.reg [.u (.ldn p59 (.t p4) 5), .u (.st (.t p3) (.t p59) 5)])
    .ret))
def t2Z (last : Int) (hs : List Rg) (step : Int) (lv : List Int) (ms : List Mk) : X := ⟨(.n (.n (.n .e (some (.pt (.i .h) 0 0)) .e) (some (.pt .h 0 0)) .e) none (.n .e (some (.pt (.o .h) 0 0)) .e)), (.n (.n .e (some (resC)) .e) (some (tabC last hs step lv ms)) (.n .e (some (outC last step lv (.lst 2 (rows rgD hs)) .ns)) .e)), .o (.o .h), none⟩
theorem c_Table2 (last : Int) (hs : List Rg) (step : Int) (lv : List Int) (ms : List Mk) (h3 : ms.length ≤ 1000) : Rn Try.prog 59 rc22L (t2Z last hs step lv ms) (Fin rs22 (.ag [.i .i64 last, .lst 2 (rows rgD hs), .i .i64 step, .lst 1 (ints lv), .lst 4 (rows mkD ms)])) := by
  have e3 := rows_length mkD ms
  conv => whnf
  repeat' first | ((first | (with_reducible first | apply WB.tt | apply WB.ff) | apply Rn.seq | apply Rn.reg | apply Rn.drw | apply Rn.blk | apply Rn.skip | apply Rn.ret | apply Rn.exit | apply Rn.cond rfl | refine i64_ (by omega) (by omega) ?_ | refine ne0_ (by omega) ?_ | refine WIx.intsN (by omega) ?_ | refine WIx.rowsN (by omega) ?_) <;> conv => whnf)
  refine Rn.loop (t2S last hs step lv ms) (fun j => j ≤ ms.length) (fun j => ms.length - j) 0 ?_ ?_ ?_
  · (first | (refine X.le.mk ?_ ?_ (Nat.le_refl _) rfl rfl) | skip) <;> (repeat' first | exact T.le_e _ | refine T.le_some ?_ ?_ ?_ | refine T.le_none ?_ ?_ | rfl)
  · omega
  rintro (_ | j) hj
  · conv => whnf
    repeat' first | ((first | (with_reducible first | apply WB.tt | apply WB.ff) | apply Rn.seq | apply Rn.reg | apply Rn.drw | apply Rn.blk | apply Rn.skip | apply Rn.ret | apply Rn.exit | apply Rn.cond rfl | refine i64_ (by omega) (by omega) ?_ | refine ne0_ (by omega) ?_ | refine WIx.intsN (by omega) ?_ | refine WIx.rowsN (by omega) ?_) <;> conv => whnf)
    refine WB.dec (fun h => ?_) (fun h => ?_) <;> conv => whnf
    · have hlt : 0 < ms.length := by omega
      have ct := c_to (ms.getD 0 default).lo (ms.getD 0 default).hi
      repeat' first | ((first | (with_reducible first | apply WB.tt | apply WB.ff) | apply Rn.seq | apply Rn.reg | apply Rn.drw | apply Rn.blk | apply Rn.skip | apply Rn.ret | apply Rn.exit | apply Rn.cond rfl | refine i64_ (by omega) (by omega) ?_ | refine ne0_ (by omega) ?_ | refine WIx.intsN (by omega) ?_ | refine WIx.rowsN (by omega) ?_ | refine WCall.pure (ct) ?_ | (with_reducible first | refine WB.decT (by first | rfl | assumption | omega | exact ⟨rfl, rfl⟩) ?_ | refine WB.decF (by first | assumption | omega) ?_ | refine WB.ndT (by first | rfl | assumption | omega | exact ⟨rfl, rfl⟩) ?_ | refine WB.ndF (by first | assumption | omega) ?_ | apply WB.nt | apply WB.nf | refine WB.dec (fun h => ?_) (fun h => ?_) | refine WB.ndec (fun h => ?_) (fun h => ?_)) | refine WB.mk (fun h => ?_) (fun h => ?_)) <;> conv => whnf)
      refine WSt.app_firstL (r := mkD (ms.getD 0 default)) rfl (.inl rfl) rfl rfl rfl rfl ?_; conv => whnf
      repeat' first | ((first | (with_reducible first | apply WB.tt | apply WB.ff) | apply Rn.seq | apply Rn.reg | apply Rn.drw | apply Rn.blk | apply Rn.skip | apply Rn.ret | apply Rn.exit | apply Rn.cond rfl | refine i64_ (by omega) (by omega) ?_ | refine ne0_ (by omega) ?_ | refine WIx.intsN (by omega) ?_ | refine WIx.rowsN (by omega) ?_ | (with_reducible first | refine WB.decT (by first | rfl | assumption | omega | exact ⟨rfl, rfl⟩) ?_ | refine WB.decF (by first | assumption | omega) ?_ | refine WB.ndT (by first | rfl | assumption | omega | exact ⟨rfl, rfl⟩) ?_ | refine WB.ndF (by first | assumption | omega) ?_ | apply WB.nt | apply WB.nf | refine WB.dec (fun h => ?_) (fun h => ?_) | refine WB.ndec (fun h => ?_) (fun h => ?_)) | refine WB.mk (fun h => ?_) (fun h => ?_)) <;> conv => whnf)
      refine Again.to 1 (by omega) (by omega) (Nat.le_of_ble_eq_true rfl) ?_
      have ht : mkF (ms.take 1) = mkD (ms.getD 0 default) := by rw [take_succ_getD (j := 0) (d := default) hlt]; simp [mkF, rows]
      refine Shr.of ?_ ?_ rfl rfl
      · show Rel _ _ ((.n (.n (.n .e (some (.pt (.i .h) 0 0)) .e) (some (.pt .h 0 0)) (.n .e (some (.i .i64 ((0 + 1 : Nat) : Int))) .e)) none (.n .e (some (.pt (.o .h) 0 0)) .e)) : T D) _
        (repeat' first | exact Rel.e | refine Rel.some ?_ ?_ ?_ | refine Rel.none ?_ ?_)
        all_goals show Fz _ _ _ _
        all_goals first | exact .pu trivial | exact .kpt (show _ < 7 by simp [Pos.nat])
      · show Rel _ _ ((.n (.n .e (some (resC)) (.n .e (some (.cells false ((mkF (ms.take 1)).map fun d => Cell.o d 0) 1)) .e)) (some (tabC last hs step lv ms)) (.n .e (some (outC last step lv (.lst 2 (rows rgD hs)) (.sl (.o (.i .h)) 0 (0 + 1) 0 4))) .e)) : T C) _
        rw [ht]
        (repeat' first | exact Rel.e | refine Rel.some ?_ ?_ ?_ | refine Rel.none ?_ ?_)
        all_goals first
          | exact RO'.of (show _ < 7 by simp [Pos.nat]) resC_sh
          | exact RO'.of (show _ < 7 by simp [Pos.nat]) (tabC_sh last hs step lv ms)
          | exact RO'.of (show _ < 7 by simp [Pos.nat]) (ShC.same (ShC.cn (.pu trivial) (ShC.cn (.pu trivial) (ShC.cn (.pu trivial) (ShC.cn (.pu trivial) ShC.nl)))))
          | exact RO'.of (show _ < 7 by simp [Pos.nat]) (outC_sh (.pu (pu_rg _)) (.ksl (show _ < 7 by simp [Pos.nat])))
    · repeat' first | ((first | (with_reducible first | apply WB.tt | apply WB.ff) | apply Rn.seq | apply Rn.reg | apply Rn.drw | apply Rn.blk | apply Rn.skip | apply Rn.ret | apply Rn.exit | apply Rn.cond rfl | refine i64_ (by omega) (by omega) ?_ | refine ne0_ (by omega) ?_ | refine WIx.intsN (by omega) ?_ | refine WIx.rowsN (by omega) ?_) <;> conv => whnf)
      have h0 : ms = [] := List.length_eq_zero_iff.1 (by omega)
      subst h0
      refine ⟨.inr rfl, _, rfl, ?_⟩
      exact .ag (.cons (.pu trivial) (.cons (.pu (pu_rg _)) (.cons (.pu trivial) (.cons (.pu (pu_ints _)) (.cons .ns .nil)))))
  · conv => whnf
    repeat' first | ((first | (with_reducible first | apply WB.tt | apply WB.ff) | apply Rn.seq | apply Rn.reg | apply Rn.drw | apply Rn.blk | apply Rn.skip | apply Rn.ret | apply Rn.exit | apply Rn.cond rfl | refine i64_ (by omega) (by omega) ?_ | refine ne0_ (by omega) ?_ | refine WIx.intsN (by omega) ?_ | refine WIx.rowsN (by omega) ?_) <;> conv => whnf)
    refine WB.dec (fun h => ?_) (fun h => ?_) <;> conv => whnf
    · have hlt : j + 1 < ms.length := by omega
      have ct := c_to (ms.getD (j + 1) default).lo (ms.getD (j + 1) default).hi
      have hln : (ms.take (j + 1)).length = j + 1 := by rw [List.length_take]; omega
      repeat' first | ((first | (with_reducible first | apply WB.tt | apply WB.ff) | apply Rn.seq | apply Rn.reg | apply Rn.drw | apply Rn.blk | apply Rn.skip | apply Rn.ret | apply Rn.exit | apply Rn.cond rfl | refine i64_ (by omega) (by omega) ?_ | refine ne0_ (by omega) ?_ | refine WIx.intsN (by omega) ?_ | refine WIx.rowsN (by omega) ?_ | refine WCall.pure (ct) ?_ | (with_reducible first | refine WB.decT (by first | rfl | assumption | omega | exact ⟨rfl, rfl⟩) ?_ | refine WB.decF (by first | assumption | omega) ?_ | refine WB.ndT (by first | rfl | assumption | omega | exact ⟨rfl, rfl⟩) ?_ | refine WB.ndF (by first | assumption | omega) ?_ | apply WB.nt | apply WB.nf | refine WB.dec (fun h => ?_) (fun h => ?_) | refine WB.ndec (fun h => ?_) (fun h => ?_)) | refine WB.mk (fun h => ?_) (fun h => ?_)) <;> conv => whnf)
      refine WSt.app_oneL (ds := mkF (ms.take (j + 1))) (r := mkD (ms.getD (j + 1) default)) rfl rfl rfl rfl rfl rfl (by rw [mkF_length, hln]) rfl rfl (by omega) rfl ?_; conv => whnf
      repeat' first | ((first | (with_reducible first | apply WB.tt | apply WB.ff) | apply Rn.seq | apply Rn.reg | apply Rn.drw | apply Rn.blk | apply Rn.skip | apply Rn.ret | apply Rn.exit | apply Rn.cond rfl | refine i64_ (by omega) (by omega) ?_ | refine ne0_ (by omega) ?_ | refine WIx.intsN (by omega) ?_ | refine WIx.rowsN (by omega) ?_ | (with_reducible first | refine WB.decT (by first | rfl | assumption | omega | exact ⟨rfl, rfl⟩) ?_ | refine WB.decF (by first | assumption | omega) ?_ | refine WB.ndT (by first | rfl | assumption | omega | exact ⟨rfl, rfl⟩) ?_ | refine WB.ndF (by first | assumption | omega) ?_ | apply WB.nt | apply WB.nf | refine WB.dec (fun h => ?_) (fun h => ?_) | refine WB.ndec (fun h => ?_) (fun h => ?_)) | refine WB.mk (fun h => ?_) (fun h => ?_)) <;> conv => whnf)
      refine Again.to (j + 2) (by omega) (by omega) (Nat.le_of_ble_eq_true rfl) ?_
      have ht : mkF (ms.take (j + 1 + 1)) = mkF (ms.take (j + 1)) ++ mkD (ms.getD (j + 1) default) := by rw [take_succ_getD (j := j + 1) (d := default) hlt, mkF_snoc]; rfl
      refine Shr.of ?_ ?_ rfl rfl
      · show Rel _ _ ((.n (.n (.n .e (some (.pt (.i .h) 0 0)) .e) (some (.pt .h 0 0)) (.n .e (some (.i .i64 ((j + 1 + 1 : Nat) : Int))) .e)) none (.n .e (some (.pt (.o .h) 0 0)) .e)) : T D) _
        (repeat' first | exact Rel.e | refine Rel.some ?_ ?_ ?_ | refine Rel.none ?_ ?_)
        all_goals show Fz _ _ _ _
        all_goals first | exact .pu trivial | exact .kpt (show _ < 7 by simp [Pos.nat])
      · show Rel _ _ ((.n (.n .e (some (resC)) (.n .e (some (.cells false ((mkF (ms.take (j + 1 + 1))).map fun d => Cell.o d (j + 1)) (j + 1 + 1))) .e)) (some (tabC last hs step lv ms)) (.n .e (some (outC last step lv (.lst 2 (rows rgD hs)) (.sl (.o (.i .h)) 0 (j + 1 + 1) (j + 1) 4))) .e)) : T C) _
        rw [ht]
        (repeat' first | exact Rel.e | refine Rel.some ?_ ?_ ?_ | refine Rel.none ?_ ?_)
        all_goals first
          | exact RO'.of (show _ < 7 by simp [Pos.nat]) resC_sh
          | exact RO'.of (show _ < 7 by simp [Pos.nat]) (tabC_sh last hs step lv ms)
          | exact RO'.of (show _ < 7 by simp [Pos.nat]) (outC_sh (.pu (pu_rg _)) (.ksl (show _ < 7 by simp [Pos.nat])))
          | (refine RO'.of (show _ < 7 by simp [Pos.nat]) ?_
             exact ShC.grown (by omega) (PuL_iff.2 fun d hd => by
               rcases List.mem_append.1 hd with hd | hd
               · exact PuL_iff.1 (pu_mkF _) d hd
               · exact PuL_iff.1 (show PuL (mkD _) by simp [mkD, PuL, Pu]) d hd))
    · repeat' first | ((first | (with_reducible first | apply WB.tt | apply WB.ff) | apply Rn.seq | apply Rn.reg | apply Rn.drw | apply Rn.blk | apply Rn.skip | apply Rn.ret | apply Rn.exit | apply Rn.cond rfl | refine i64_ (by omega) (by omega) ?_ | refine ne0_ (by omega) ?_ | refine WIx.intsN (by omega) ?_ | refine WIx.rowsN (by omega) ?_) <;> conv => whnf)
      have he : ms.take (j + 1) = ms := List.take_of_length_le (by omega)
      refine ⟨.inr rfl, _, rfl, ?_⟩
      refine .ag (.cons (.pu trivial) (.cons (.pu (pu_rg _)) (.cons (.pu trivial) (.cons (.pu (pu_ints _)) (.cons ?_ .nil)))))
      exact Frz.whole (cs := (mkF (ms.take (j + 1))).map fun d => Cell.o d j) (cur := j + 1) rfl (by omega) (mk_four _) (by rw [he]; rfl) (pu_mk _)
theorem c_Table (last : Int) (hs : List Rg) (step : Int) (lv : List Int) (ms : List Mk) (h1 : hs.length ≤ 1000) (h2 : lv.length ≤ 1000) (h3 : ms.length ≤ 1000) : PureF Try.prog p23.ix [.ag [.i .i64 last, .lst 2 (rows rgD hs), .i .i64 step, .lst 1 (ints lv), .lst 4 (rows mkD ms)]] (.ag [.i .i64 last, .lst 2 (rows rgD hs), .i .i64 step, .lst 1 (ints lv), .lst 4 (rows mkD ms)]) := by
  have e1 := rows_length rgD hs
  have e3 := rows_length mkD ms
  refine PureF.run fn22 (by simp) (by simp [PuL, PuE, Pu, pu_ints, pu_rg, pu_mk]) ?_; conv => whnf
  refine Rn.seq ?_; conv => whnf
  refine Rn.reg ?_; conv => whnf
  refine Rn.seqB ?_; conv => whnf
  repeat' first | ((first | (with_reducible first | apply WB.tt | apply WB.ff) | apply Rn.seq | apply Rn.reg | apply Rn.drw | apply Rn.blk | apply Rn.skip | apply Rn.ret | apply Rn.exit | apply Rn.cond rfl | refine i64_ (by omega) (by omega) ?_ | refine ne0_ (by omega) ?_ | refine WIx.intsN (by omega) ?_ | refine WIx.rowsN (by omega) ?_ | refine WCall.pure (c_list lv (by omega)) ?_) <;> conv => whnf)
  refine Rn.loop (t1S last hs step lv ms) (fun j => j ≤ hs.length) (fun j => hs.length - j) 0 ?_ ?_ ?_
  · (first | (refine X.le.mk ?_ ?_ (Nat.le_refl _) rfl rfl) | skip) <;> (repeat' first | exact T.le_e _ | refine T.le_some ?_ ?_ ?_ | refine T.le_none ?_ ?_ | rfl)
  · omega
  rintro (_ | j) hj
  · conv => whnf
    repeat' first | ((first | (with_reducible first | apply WB.tt | apply WB.ff) | apply Rn.seq | apply Rn.reg | apply Rn.drw | apply Rn.blk | apply Rn.skip | apply Rn.ret | apply Rn.exit | apply Rn.cond rfl | refine i64_ (by omega) (by omega) ?_ | refine ne0_ (by omega) ?_ | refine WIx.intsN (by omega) ?_ | refine WIx.rowsN (by omega) ?_) <;> conv => whnf)
    refine WB.dec (fun h => ?_) (fun h => ?_) <;> conv => whnf
    · have hlt : 0 < hs.length := by omega
      have ct := c_to (hs.getD 0 default).lo (hs.getD 0 default).hi
      repeat' first | ((first | (with_reducible first | apply WB.tt | apply WB.ff) | apply Rn.seq | apply Rn.reg | apply Rn.drw | apply Rn.blk | apply Rn.skip | apply Rn.ret | apply Rn.exit | apply Rn.cond rfl | refine i64_ (by omega) (by omega) ?_ | refine ne0_ (by omega) ?_ | refine WIx.intsN (by omega) ?_ | refine WIx.rowsN (by omega) ?_ | refine WCall.pure (ct) ?_ | (with_reducible first | refine WB.decT (by first | rfl | assumption | omega | exact ⟨rfl, rfl⟩) ?_ | refine WB.decF (by first | assumption | omega) ?_ | refine WB.ndT (by first | rfl | assumption | omega | exact ⟨rfl, rfl⟩) ?_ | refine WB.ndF (by first | assumption | omega) ?_ | apply WB.nt | apply WB.nf | refine WB.dec (fun h => ?_) (fun h => ?_) | refine WB.ndec (fun h => ?_) (fun h => ?_)) | refine WB.mk (fun h => ?_) (fun h => ?_)) <;> conv => whnf)
      refine WSt.app_firstL (r := rgD (hs.getD 0 default)) rfl (.inl rfl) rfl rfl rfl rfl ?_; conv => whnf
      repeat' first | ((first | (with_reducible first | apply WB.tt | apply WB.ff) | apply Rn.seq | apply Rn.reg | apply Rn.drw | apply Rn.blk | apply Rn.skip | apply Rn.ret | apply Rn.exit | apply Rn.cond rfl | refine i64_ (by omega) (by omega) ?_ | refine ne0_ (by omega) ?_ | refine WIx.intsN (by omega) ?_ | refine WIx.rowsN (by omega) ?_ | (with_reducible first | refine WB.decT (by first | rfl | assumption | omega | exact ⟨rfl, rfl⟩) ?_ | refine WB.decF (by first | assumption | omega) ?_ | refine WB.ndT (by first | rfl | assumption | omega | exact ⟨rfl, rfl⟩) ?_ | refine WB.ndF (by first | assumption | omega) ?_ | apply WB.nt | apply WB.nf | refine WB.dec (fun h => ?_) (fun h => ?_) | refine WB.ndec (fun h => ?_) (fun h => ?_)) | refine WB.mk (fun h => ?_) (fun h => ?_)) <;> conv => whnf)
      refine Again.to 1 (by omega) (by omega) (Nat.le_of_ble_eq_true rfl) ?_
      have ht : rgF (hs.take 1) = rgD (hs.getD 0 default) := by rw [take_succ_getD (j := 0) (d := default) hlt]; simp [rgF, rows]
      refine Shr.of ?_ ?_ rfl rfl
      · show Rel _ _ ((.n (.n (.n .e (some (.pt (.i .h) 0 0)) .e) (some (.pt .h 0 0)) .e) none (.n (.n .e (some (.i .i64 ((0 + 1 : Nat) : Int))) .e) (some (.pt (.o .h) 0 0)) .e)) : T D) _
        (repeat' first | exact Rel.e | refine Rel.some ?_ ?_ ?_ | refine Rel.none ?_ ?_)
        all_goals show Fz _ _ _ _
        all_goals first | exact .pu trivial | exact .kpt (show _ < 6 by simp [Pos.nat])
      · show Rel _ _ ((.n (.n .e (some (resC)) .e) (some (tabC last hs step lv ms)) (.n (.n .e (some (.cells false ((rgF (hs.take 1)).map fun d => Cell.o d 0) 1)) .e) (some (outC last step lv (.sl (.i (.o .h)) 0 (0 + 1) 0 2) .ns)) .e)) : T C) _
        rw [ht]
        (repeat' first | exact Rel.e | refine Rel.some ?_ ?_ ?_ | refine Rel.none ?_ ?_)
        · exact RO'.of (show _ < 6 by simp [Pos.nat]) resC_sh
        · exact RO'.of (show _ < 6 by simp [Pos.nat]) (tabC_sh last hs step lv ms)
        · exact RO'.of (show _ < 6 by simp [Pos.nat]) (ShC.same (ShC.cn (.pu trivial) (ShC.cn (.pu trivial) ShC.nl)))
        · exact RO'.of (show _ < 6 by simp [Pos.nat]) (outC_sh (.ksl (show _ < 6 by simp [Pos.nat])) (.pu trivial))
    · repeat' first | ((first | (with_reducible first | apply WB.tt | apply WB.ff) | apply Rn.seq | apply Rn.reg | apply Rn.drw | apply Rn.blk | apply Rn.skip | apply Rn.ret | apply Rn.exit | apply Rn.cond rfl | refine i64_ (by omega) (by omega) ?_ | refine ne0_ (by omega) ?_ | refine WIx.intsN (by omega) ?_ | refine WIx.rowsN (by omega) ?_) <;> conv => whnf)
      have h0 : hs = [] := List.length_eq_zero_iff.1 (by omega)
      refine ⟨rfl, t2Z last hs step lv ms, (fun id => id.nat < 4), ?_, (fun id (h : id.nat < 3) => show id.nat < 4 by omega), (fun id h => h), (show 3 ≤ 4 by omega), c_Table2 last hs step lv ms h3⟩
      refine ShrB.of ?_ ?_ rfl rfl
      · show Rel _ _ ((.n (.n (.n .e (some (.pt (.i .h) 0 0)) .e) (some (.pt .h 0 0)) .e) none (.n .e (some (.pt (.o .h) 0 0)) .e)) : T D) _
        (repeat' first | exact Rel.e | refine Rel.some ?_ ?_ ?_ | refine Rel.none ?_ ?_ | refine Rel.ee ?_ ?_)
        all_goals exact (show Fz _ _ _ _ from .kpt (show _ < 4 by simp [Pos.nat]))
      · show Rel _ _ ((.n (.n .e (some (resC)) .e) (some (tabC last hs step lv ms)) (.n .e (some (outC last step lv (.lst 2 (rows rgD hs)) .ns)) .e)) : T C) _
        (repeat' first | exact Rel.e | refine Rel.some ?_ ?_ ?_ | refine Rel.none ?_ ?_ | refine Rel.ee ?_ ?_)
        all_goals refine ⟨show _ < 4 by simp [Pos.nat], ?_⟩
        all_goals first
          | exact resC_sh
          | exact tabC_sh last hs step lv ms
          | exact outC_sh (by rw [h0]; exact .ns) (.pu trivial)
  · conv => whnf
    repeat' first | ((first | (with_reducible first | apply WB.tt | apply WB.ff) | apply Rn.seq | apply Rn.reg | apply Rn.drw | apply Rn.blk | apply Rn.skip | apply Rn.ret | apply Rn.exit | apply Rn.cond rfl | refine i64_ (by omega) (by omega) ?_ | refine ne0_ (by omega) ?_ | refine WIx.intsN (by omega) ?_ | refine WIx.rowsN (by omega) ?_) <;> conv => whnf)
    refine WB.dec (fun h => ?_) (fun h => ?_) <;> conv => whnf
    · have hlt : j + 1 < hs.length := by omega
      have ct := c_to (hs.getD (j + 1) default).lo (hs.getD (j + 1) default).hi
      have hln : (hs.take (j + 1)).length = j + 1 := by rw [List.length_take]; omega
      repeat' first | ((first | (with_reducible first | apply WB.tt | apply WB.ff) | apply Rn.seq | apply Rn.reg | apply Rn.drw | apply Rn.blk | apply Rn.skip | apply Rn.ret | apply Rn.exit | apply Rn.cond rfl | refine i64_ (by omega) (by omega) ?_ | refine ne0_ (by omega) ?_ | refine WIx.intsN (by omega) ?_ | refine WIx.rowsN (by omega) ?_ | refine WCall.pure (ct) ?_ | (with_reducible first | refine WB.decT (by first | rfl | assumption | omega | exact ⟨rfl, rfl⟩) ?_ | refine WB.decF (by first | assumption | omega) ?_ | refine WB.ndT (by first | rfl | assumption | omega | exact ⟨rfl, rfl⟩) ?_ | refine WB.ndF (by first | assumption | omega) ?_ | apply WB.nt | apply WB.nf | refine WB.dec (fun h => ?_) (fun h => ?_) | refine WB.ndec (fun h => ?_) (fun h => ?_)) | refine WB.mk (fun h => ?_) (fun h => ?_)) <;> conv => whnf)
      refine WSt.app_oneL (ds := rgF (hs.take (j + 1))) (r := rgD (hs.getD (j + 1) default)) rfl rfl rfl rfl rfl rfl (by rw [rgF_length, hln]) rfl rfl (by omega) rfl ?_; conv => whnf
      repeat' first | ((first | (with_reducible first | apply WB.tt | apply WB.ff) | apply Rn.seq | apply Rn.reg | apply Rn.drw | apply Rn.blk | apply Rn.skip | apply Rn.ret | apply Rn.exit | apply Rn.cond rfl | refine i64_ (by omega) (by omega) ?_ | refine ne0_ (by omega) ?_ | refine WIx.intsN (by omega) ?_ | refine WIx.rowsN (by omega) ?_ | (with_reducible first | refine WB.decT (by first | rfl | assumption | omega | exact ⟨rfl, rfl⟩) ?_ | refine WB.decF (by first | assumption | omega) ?_ | refine WB.ndT (by first | rfl | assumption | omega | exact ⟨rfl, rfl⟩) ?_ | refine WB.ndF (by first | assumption | omega) ?_ | apply WB.nt | apply WB.nf | refine WB.dec (fun h => ?_) (fun h => ?_) | refine WB.ndec (fun h => ?_) (fun h => ?_)) | refine WB.mk (fun h => ?_) (fun h => ?_)) <;> conv => whnf)
      refine Again.to (j + 2) (by omega) (by omega) (Nat.le_of_ble_eq_true rfl) ?_
      have ht : rgF (hs.take (j + 1 + 1)) = rgF (hs.take (j + 1)) ++ rgD (hs.getD (j + 1) default) := by rw [take_succ_getD (j := j + 1) (d := default) hlt, rgF_snoc]; rfl
      refine Shr.of ?_ ?_ rfl rfl
      · show Rel _ _ ((.n (.n (.n .e (some (.pt (.i .h) 0 0)) .e) (some (.pt .h 0 0)) .e) none (.n (.n .e (some (.i .i64 ((j + 1 + 1 : Nat) : Int))) .e) (some (.pt (.o .h) 0 0)) .e)) : T D) _
        (repeat' first | exact Rel.e | refine Rel.some ?_ ?_ ?_ | refine Rel.none ?_ ?_)
        all_goals show Fz _ _ _ _
        all_goals first | exact .pu trivial | exact .kpt (show _ < 6 by simp [Pos.nat])
      · show Rel _ _ ((.n (.n .e (some (resC)) .e) (some (tabC last hs step lv ms)) (.n (.n .e (some (.cells false ((rgF (hs.take (j + 1 + 1))).map fun d => Cell.o d (j + 1)) (j + 1 + 1))) .e) (some (outC last step lv (.sl (.i (.o .h)) 0 (j + 1 + 1) (j + 1) 2) .ns)) .e)) : T C) _
        rw [ht]
        (repeat' first | exact Rel.e | refine Rel.some ?_ ?_ ?_ | refine Rel.none ?_ ?_)
        · exact RO'.of (show _ < 6 by simp [Pos.nat]) resC_sh
        · exact RO'.of (show _ < 6 by simp [Pos.nat]) (tabC_sh last hs step lv ms)
        · refine RO'.of (show _ < 6 by simp [Pos.nat]) ?_
          exact ShC.grown (by omega) (PuL_iff.2 fun d hd => by
            rcases List.mem_append.1 hd with hd | hd
            · exact PuL_iff.1 (pu_rgF _) d hd
            · exact PuL_iff.1 (show PuL (rgD _) by simp [rgD, PuL, Pu]) d hd)
        · exact RO'.of (show _ < 6 by simp [Pos.nat]) (outC_sh (.ksl (show _ < 6 by simp [Pos.nat])) (.pu trivial))
    · repeat' first | ((first | (with_reducible first | apply WB.tt | apply WB.ff) | apply Rn.seq | apply Rn.reg | apply Rn.drw | apply Rn.blk | apply Rn.skip | apply Rn.ret | apply Rn.exit | apply Rn.cond rfl | refine i64_ (by omega) (by omega) ?_ | refine ne0_ (by omega) ?_ | refine WIx.intsN (by omega) ?_ | refine WIx.rowsN (by omega) ?_) <;> conv => whnf)
      have he : hs.take (j + 1) = hs := List.take_of_length_le (by omega)
      refine ⟨rfl, t2Z last hs step lv ms, (fun id => id.nat < 4), ?_, (fun id (h : id.nat < 3) => show id.nat < 4 by omega), (fun id h => h), (show 3 ≤ 4 by omega), c_Table2 last hs step lv ms h3⟩
      refine ShrB.of ?_ ?_ rfl rfl
      · show Rel _ _ ((.n (.n (.n .e (some (.pt (.i .h) 0 0)) .e) (some (.pt .h 0 0)) .e) none (.n .e (some (.pt (.o .h) 0 0)) .e)) : T D) _
        (repeat' first | exact Rel.e | refine Rel.some ?_ ?_ ?_ | refine Rel.none ?_ ?_ | refine Rel.ee ?_ ?_)
        all_goals exact (show Fz _ _ _ _ from .kpt (show _ < 4 by simp [Pos.nat]))
      · show Rel _ _ ((.n (.n .e (some (resC)) .e) (some (tabC last hs step lv ms)) (.n .e (some (outC last step lv (.lst 2 (rows rgD hs)) .ns)) .e)) : T C) _
        (repeat' first | exact Rel.e | refine Rel.some ?_ ?_ ?_ | refine Rel.none ?_ ?_ | refine Rel.ee ?_ ?_)
        all_goals refine ⟨show _ < 4 by simp [Pos.nat], ?_⟩
        all_goals first
          | exact resC_sh
          | exact tabC_sh last hs step lv ms
          | exact outC_sh (Fz.grown (ds := []) (r := rgF (hs.take (j + 1))) (s1 := 0) (cs := (rgF (hs.take (j + 1))).map fun d => Cell.o d j) (cur := j + 1) (show ¬ 5 < 4 by omega) rfl (by simp) (Nat.zero_le _) (by rw [he]; rfl) (by omega) (rg_two _) (pu_rg _)) (.pu trivial)
end Go.Ev

namespace Go.Ev
open Go.Proofs
set_option maxRecDepth 100000
def th2 : Pos := .o .h
def sl2 : List Int → D
  | [] => .ns
  | _ :: s => .sl th2 0 (s.length + 1) s.length 1
def nx2 : List Int → Pos
  | [] => .h
  | _ :: _ => .i .h
section
variable (t : List Int) (level : Int)
end
def thinR (last : Int) (hs : List Rg) (step : Int) (lv : List Int) (ms : List Mk) : Bool :=
  decide (¬ (12 < hs.length ∨ 8 < lv.length ∨ 7 < ms.length)) && (decide (faultR last hs step lv ms ≠ 0) || decide (manyR hs ≤ 150))
theorem c_Thin (last : Int) (hs : List Rg) (step : Int) (lv : List Int) (ms : List Mk) : PureF Try.prog p20.ix [.ag [.i .i64 last, .lst 2 (rows rgD hs), .i .i64 step, .lst 1 (ints lv), .lst 4 (rows mkD ms)]] (.b (thinR last hs step lv ms)) := by
  have e1 := rows_length rgD hs
  have e2 := ints_length lv
  have e3 := rows_length mkD ms
  refine PureF.run fn19 (by simp) (by simp [PuL, PuE, Pu, pu_ints, pu_rg, pu_mk]) ?_; conv => whnf
  repeat' first | ((first | (with_reducible first | apply WB.tt | apply WB.ff) | apply Rn.seq | apply Rn.reg | apply Rn.drw | apply Rn.blk | apply Rn.skip | apply Rn.ret | apply Rn.exit | apply Rn.cond rfl | refine i64_ (by omega) (by omega) ?_ | refine ne0_ (by omega) ?_ | refine WIx.intsN (by omega) ?_ | refine WIx.rowsN (by omega) ?_) <;> conv => whnf)
  refine WB.dec (fun h => ?_) (fun h => ?_) <;> conv => whnf
  · repeat' first | ((first | (with_reducible first | apply WB.tt | apply WB.ff) | apply Rn.seq | apply Rn.reg | apply Rn.drw | apply Rn.blk | apply Rn.skip | apply Rn.ret | apply Rn.exit | apply Rn.cond rfl | refine i64_ (by omega) (by omega) ?_ | refine ne0_ (by omega) ?_ | refine WIx.intsN (by omega) ?_ | refine WIx.rowsN (by omega) ?_) <;> conv => whnf)
    exact Fin.b rfl (by unfold thinR; rw [decide_eq_false (by omega)]; rfl)
  repeat' first | ((first | (with_reducible first | apply WB.tt | apply WB.ff) | apply Rn.seq | apply Rn.reg | apply Rn.drw | apply Rn.blk | apply Rn.skip | apply Rn.ret | apply Rn.exit | apply Rn.cond rfl | refine i64_ (by omega) (by omega) ?_ | refine ne0_ (by omega) ?_ | refine WIx.intsN (by omega) ?_ | refine WIx.rowsN (by omega) ?_) <;> conv => whnf)
  refine WB.dec (fun h => ?_) (fun h => ?_) <;> conv => whnf
  · repeat' first | ((first | (with_reducible first | apply WB.tt | apply WB.ff) | apply Rn.seq | apply Rn.reg | apply Rn.drw | apply Rn.blk | apply Rn.skip | apply Rn.ret | apply Rn.exit | apply Rn.cond rfl | refine i64_ (by omega) (by omega) ?_ | refine ne0_ (by omega) ?_ | refine WIx.intsN (by omega) ?_ | refine WIx.rowsN (by omega) ?_) <;> conv => whnf)
    exact Fin.b rfl (by unfold thinR; rw [decide_eq_false (by omega)]; rfl)
  repeat' first | ((first | (with_reducible first | apply WB.tt | apply WB.ff) | apply Rn.seq | apply Rn.reg | apply Rn.drw | apply Rn.blk | apply Rn.skip | apply Rn.ret | apply Rn.exit | apply Rn.cond rfl | refine i64_ (by omega) (by omega) ?_ | refine ne0_ (by omega) ?_ | refine WIx.intsN (by omega) ?_ | refine WIx.rowsN (by omega) ?_) <;> conv => whnf)
  refine WB.dec (fun h => ?_) (fun h => ?_) <;> conv => whnf
  · repeat' first | ((first | (with_reducible first | apply WB.tt | apply WB.ff) | apply Rn.seq | apply Rn.reg | apply Rn.drw | apply Rn.blk | apply Rn.skip | apply Rn.ret | apply Rn.exit | apply Rn.cond rfl | refine i64_ (by omega) (by omega) ?_ | refine ne0_ (by omega) ?_ | refine WIx.intsN (by omega) ?_ | refine WIx.rowsN (by omega) ?_) <;> conv => whnf)
    exact Fin.b rfl (by unfold thinR; rw [decide_eq_false (by omega)]; rfl)
  have f1 : ¬ (12 < hs.length ∨ 8 < lv.length ∨ 7 < ms.length) := by omega
  unfold thinR
  rw [decide_eq_true f1, Bool.true_and]
  have iF := c_Fault last hs step lv ms
  by_cases hf : faultR last hs step lv ms = 0
  · obtain ⟨V, hm, _⟩ := fault_zero hf
    have iM := c_Many last hs step lv ms V.hv (by omega)
    rw [hf] at iF ⊢
    repeat' first | ((first | (with_reducible first | apply WB.tt | apply WB.ff) | apply Rn.seq | apply Rn.reg | apply Rn.drw | apply Rn.blk | apply Rn.skip | apply Rn.ret | apply Rn.exit | apply Rn.cond rfl | refine i64_ (by omega) (by omega) ?_ | refine ne0_ (by omega) ?_ | refine WIx.intsN (by omega) ?_ | refine WIx.rowsN (by omega) ?_ | refine WCall.pure (iF) ?_ | refine WCall.pure (iM) ?_) <;> conv => whnf)
    refine WB.mk (fun h => absurd h (by simp)) (fun h => ?_); conv => whnf
    repeat' first | ((first | (with_reducible first | apply WB.tt | apply WB.ff) | apply Rn.seq | apply Rn.reg | apply Rn.drw | apply Rn.blk | apply Rn.skip | apply Rn.ret | apply Rn.exit | apply Rn.cond rfl | refine i64_ (by omega) (by omega) ?_ | refine ne0_ (by omega) ?_ | refine WIx.intsN (by omega) ?_ | refine WIx.rowsN (by omega) ?_ | refine WCall.pure (iF) ?_ | refine WCall.pure (iM) ?_) <;> conv => whnf)
    exact Fin.b rfl (by simp)
  · repeat' first | ((first | (with_reducible first | apply WB.tt | apply WB.ff) | apply Rn.seq | apply Rn.reg | apply Rn.drw | apply Rn.blk | apply Rn.skip | apply Rn.ret | apply Rn.exit | apply Rn.cond rfl | refine i64_ (by omega) (by omega) ?_ | refine ne0_ (by omega) ?_ | refine WIx.intsN (by omega) ?_ | refine WIx.rowsN (by omega) ?_ | refine WCall.pure (iF) ?_) <;> conv => whnf)
    refine WB.mk (fun h => ?_) (fun h => ?_) <;> conv => whnf
    · repeat' first | ((first | (with_reducible first | apply WB.tt | apply WB.ff) | apply Rn.seq | apply Rn.reg | apply Rn.drw | apply Rn.blk | apply Rn.skip | apply Rn.ret | apply Rn.exit | apply Rn.cond rfl | refine i64_ (by omega) (by omega) ?_ | refine ne0_ (by omega) ?_ | refine WIx.intsN (by omega) ?_ | refine WIx.rowsN (by omega) ?_) <;> conv => whnf)
      exact Fin.b rfl (by rw [decide_eq_true hf]; rfl)
    · exact absurd (by simpa using h) hf
end Go.Ev

namespace Go.Ev
open Go.Proofs
set_option maxRecDepth 100000
theorem fit_rgs : ∀ {es : List (List D)}, (∀ x ∈ es, FitL [.i .i64, .i .i64] x) → ∃ hs, es = rows rgD hs
  | [], _ => ⟨[], rfl⟩
  | x :: es, h => by
    obtain ⟨l, rfl⟩ := fit_rgs (es := es) fun y hy => h y (by simp [hy])
    have h1 := h x (by simp)
    simp only [FitL, FitC] at h1
    obtain ⟨d, ds, rfl, ⟨n1, rfl, _⟩, d2, ds2, rfl, ⟨n2, rfl, _⟩, rfl⟩ := h1
    exact ⟨⟨n1, n2⟩ :: l, rfl⟩
theorem fit_mks : ∀ {es : List (List D)}, (∀ x ∈ es, FitL [.i .i64, .i .i64, .i .i64, .i .i64] x) → ∃ ms, es = rows mkD ms
  | [], _ => ⟨[], rfl⟩
  | x :: es, h => by
    obtain ⟨l, rfl⟩ := fit_mks (es := es) fun y hy => h y (by simp [hy])
    have h1 := h x (by simp)
    simp only [FitL, FitC] at h1
    obtain ⟨d, ds, rfl, ⟨n1, rfl, _⟩, d2, ds2, rfl, ⟨n2, rfl, _⟩, d3, ds3, rfl, ⟨n3, rfl, _⟩, d4, ds4, rfl, ⟨n4, rfl, _⟩, rfl⟩ := h1
    exact ⟨⟨n1, n2, n3, n4⟩ :: l, rfl⟩
theorem FitP.tab {ps : List (Bool × List CK)} {ds : List D} (h : FitP ((true, [.i .i64, .sl [.i .i64, .i .i64], .i .i64, .sl [.i .i64], .sl [.i .i64, .i .i64, .i .i64, .i .i64]]) :: ps) ds) : ∃ last hs step lv ms ds', ds = .ag [.i .i64 last, .lst 2 (rows rgD hs), .i .i64 step, .lst 1 (ints lv), .lst 4 (rows mkD ms)] :: ds' ∧ FitP ps ds' := by
  unfold FitP at h
  obtain ⟨es, ds', rfl, h1, h2⟩ := h
  simp only [FitL, FitC] at h1
  obtain ⟨d, ds, rfl, ⟨n1, rfl, _⟩, d2, ds2, rfl, ⟨e2, rfl, k2⟩, d3, ds3, rfl, ⟨n3, rfl, _⟩, d4, ds4, rfl, ⟨e4, rfl, k4⟩, d5, ds5, rfl, ⟨e5, rfl, k5⟩, rfl⟩ := h1
  obtain ⟨hs, rfl⟩ := fit_rgs fun x hx => by have := k2 x hx; simpa only [FitL, FitC] using this
  obtain ⟨lv, rfl, _⟩ := fit_ints fun x hx => by have := k4 x hx; simpa only [FitL, FitC] using this
  obtain ⟨ms, rfl⟩ := fit_mks fun x hx => by have := k5 x hx; simpa only [FitL, FitC] using this
  exact ⟨n1, hs, n3, lv, ms, ds', rfl, h2⟩
end Go.Ev
