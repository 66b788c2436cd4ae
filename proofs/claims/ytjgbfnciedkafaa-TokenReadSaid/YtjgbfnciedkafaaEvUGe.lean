import Derived.Test.YtjgbfnciedkafaaEvUGc
import Derived.Test.YtjgbfnciedkafaaEvUFo
set_option linter.all false
namespace Go.Ev
open Go.Proofs
set_option maxRecDepth 100000
theorem Fz.whole {B : Pos → Prop} {ob : T C} {id : Pos} {z st : Nat} {cs : List Cell} {cur : Nat} {es : List (List D)} {n : Nat} (hB : ¬ B id) (h : ob.get id = some (.cells false cs cur)) (hn : n = es.length) (hz : ∀ r ∈ es, r.length = z) (hc : cs = es.flatten.map fun d => Cell.o d st) (hp : PuE es) : Fz B ob (.sl id 0 n st z) (.lst z es) := by
  subst hc
  refine .sl hB h hn.symm hz (fun k d hk => ⟨.o d st, ?_, ?_, rfl⟩) (FzE.of hp)
  · rw [List.drop_zero, List.getElem?_map, hk]; rfl
  · show Nat.ble st st = true
    exact Nat.ble_eq_true_of_le (Nat.le_refl _)
def outA (B : Bk) (aft x : Nat) : List Int := ansL B aft fun m => min (m.h x) 1
def vdO (B : Bk) (aft x : Nat) : Int := vdT ((outA B aft x).foldl min ((outA B aft x).getD 0 0)) ((outA B aft x).foldl max ((outA B aft x).getD 0 0))
def vdL (B : Bk) (aft fst : Nat) : List Int := (List.range B.n.toNat).map fun i => vdO B aft (fst + i)
theorem vdL_len (B : Bk) (aft fst : Nat) : (vdL B aft fst).length = B.n.toNat := by simp [vdL]
theorem vdL_at {B : Bk} {aft fst j : Nat} (h : j < B.n.toNat) : (vdL B aft fst).getD j 0 = vdO B aft (fst + j) := by simp [vdL, List.getD, h]
theorem fold01 {L : List Int} (hne : L ≠ []) (h : ∀ x ∈ L, 0 ≤ x ∧ x ≤ 1) : (0 ≤ L.foldl min (L.getD 0 0) ∧ L.foldl min (L.getD 0 0) ≤ 1) ∧ (0 ≤ L.foldl max (L.getD 0 0) ∧ L.foldl max (L.getD 0 0) ≤ 1) := by
  have h0 : L.getD 0 0 ∈ L := by
    cases L with
    | nil => exact absurd rfl hne
    | cons a l => simp
  constructor
  · rcases foldmin_mem (L := L) (a := L.getD 0 0) with e | e
    · rw [e]; exact h _ h0
    · exact h _ e
  · rcases foldmax_mem (L := L) (a := L.getD 0 0) with e | e
    · rw [e]; exact h _ h0
    · exact h _ e
theorem outA_01 {B : Bk} {aft x : Nat} : ∀ y ∈ outA B aft x, 0 ≤ y ∧ y ≤ 1 := fun y hy => by
  obtain ⟨X, _, rfl⟩ := List.mem_map.1 hy
  have g1 := cOut_bd X (x : Int) aft
  have g2 := tOut_bd X ((x - 4 : Nat) : Int) aft
  have : 0 ≤ (moR B.box B.coin X aft).h x := by
    show 0 ≤ (if x < 4 then cOut X (x : Int) aft + 1 else tOut X ((x - 4 : Nat) : Int) aft + 1)
    split <;> omega
  show 0 ≤ min ((moR B.box B.coin X aft).h x) 1 ∧ min ((moR B.box B.coin X aft).h x) 1 ≤ 1
  omega
theorem j_verd {B : Bk} {aft x : Nat} (hne : exT B B.ls.length [] ≠ []) : PureF Try.prog p118.ix [lohi (outA B aft x)] (.i .i64 (vdO B aft x)) := by
  have hA : outA B aft x ≠ [] := fun e => hne (List.map_eq_nil_iff.1 e)
  obtain ⟨⟨a1, a2⟩, ⟨b1, b2⟩⟩ := fold01 hA outA_01
  exact j_verdict _ _ (wf_small (by omega) (by omega)) (wf_small (by omega) (by omega))
set_option maxHeartbeats 1000000 in
theorem j_verdicts {B : Bk} (V : VB B) {aft fst : Nat} (ha : aft ≤ B.ls.length) (hf : fst ≤ 4) (hne : exT B B.ls.length [] ≠ []) (M : Memo) (hM : MOk B M) :
    ∃ M', MOk B M' ∧ CallOk Try.prog p87.ix [.ag (wkQ B ++ [.mp .h]), .i .i64 (aft : Int), .i .i64 (fst : Int)] (mapP M) (.o .h) none (.lst 1 (ints (vdL B aft fst))) (mapP M') (.o .h) none := by
  have hn := V.n
  obtain ⟨v, ob', ⟨M', hM', rfl, rfl⟩, Hb⟩ := CallOk.runE (Φ := fun v ob' => ∃ M', MOk B M' ∧ v = .lst 1 (ints (vdL B aft fst)) ∧ ob' = mapP M') (ob := mapP M) (nx := .o .h) (nx' := .o .h) (ds := [.ag (wkQ B ++ [.mp .h]), .i .i64 (aft : Int), .i .i64 (fst : Int)]) fn86 (by simp) (Nat.le_refl _) (by
    unfold wkQ
    conv => whnf
    repeat' first | ((first | with_reducible apply WB.tt | with_reducible apply WB.ff | refine Rn.seq ?_ | refine Rn.reg ?_ | refine Rn.drw ?_ | refine Rn.blk ?_ | refine Rn.skip ?_ | refine Rn.ret ?_ | refine Rn.exit ?_ | refine Rn.cond rfl ?_ | refine And.intro (InR.i64 (by omega) (by omega)) ?_ | refine And.intro (show _ ≠ (0 : Int) by omega) ?_ | refine WIx.intsN (by omega) ?_ | refine WIx.rowsN (by omega) ?_) <;> conv => whnf)
    refine Rn.loop (fun (t : Nat × Memo) => match t with
      | (0, M) => ⟨(.n (.n (.n (.n .e (some (.ns)) .e) (some (.pt (.o .h) 0 0)) .e) (some (.i .i64 (aft : Int))) (.n .e none (.n .e (some (.i .i64 0)) .e))) none (.n (.n .e none (.n .e (some (.i .i64 B.n)) .e)) (some (.i .i64 (fst : Int))) .e)), (.n (.n .e (some (wkCl B)) .e) (some (.map (mapL M))) .e), .i .h, none⟩
      | (j + 1, M) => ⟨(.n (.n (.n (.n .e (some (.sl (.o (.o .h)) 0 (j + 1) j 1)) .e) (some (.pt (.o .h) 0 0)) .e) (some (.i .i64 (aft : Int))) (.n .e none (.n .e (some (.i .i64 ((j + 1 : Nat) : Int))) .e))) none (.n (.n .e none (.n .e (some (.i .i64 B.n)) .e)) (some (.i .i64 (fst : Int))) .e)), (.n (.n (.n .e (some (.cells false ((((vdL B aft fst).take (j + 1)).map fun n => D.i .i64 n).map fun d => Cell.o d j) (j + 1))) .e) (some (wkCl B)) .e) (some (.map (mapL M))) .e), .i (.o .h), none⟩) (fun t => t.1 ≤ B.n.toNat ∧ MOk B t.2) (fun t => B.n.toNat - t.1) (0, M) ?_ ?_ ?_
    · refine X.le.mk ?_ ?_ (Nat.le_refl _) rfl rfl <;> (repeat' first | exact T.le_e _ | refine T.le_some ?_ rfl ?_ | refine T.le_none ?_ ?_)
    · exact ⟨Nat.zero_le _, hM⟩
    rintro ⟨_ | j, M⟩ ⟨hj, hM⟩
    · have hM : MOk B M := hM
      obtain ⟨M', hM', Hb⟩ := j_bounds V (ask_isOut B (fst + 0) (by omega)) ha hne M hM
      have cV := j_verd (aft := aft) (x := fst + 0) hne
      rw [show ((fst + 0 : Nat) : Int) = (fst : Int) + 0 by omega] at Hb
      conv => whnf
      repeat' first | ((first | with_reducible apply WB.tt | with_reducible apply WB.ff | refine Rn.seq ?_ | refine Rn.reg ?_ | refine Rn.drw ?_ | refine Rn.blk ?_ | refine Rn.skip ?_ | refine Rn.ret ?_ | refine Rn.exit ?_ | refine Rn.cond rfl ?_ | refine And.intro (InR.i64 (by omega) (by omega)) ?_ | refine And.intro (show _ ≠ (0 : Int) by omega) ?_ | refine WIx.intsN (by omega) ?_ | refine WIx.rowsN (by omega) ?_ | with_reducible refine WB.decT (by first | with_reducible rfl | assumption | omega | exact ⟨rfl, rfl⟩) ?_ | with_reducible refine WB.decF (by first | assumption | omega) ?_ | with_reducible refine WB.ndT (by first | with_reducible rfl | assumption | omega | exact ⟨rfl, rfl⟩) ?_ | with_reducible refine WB.ndF (by first | assumption | omega) ?_ | with_reducible refine WB.nt ?_ | with_reducible refine WB.nf ?_ | with_reducible refine WB.dec (fun h => ?_) (fun h => ?_) | with_reducible refine WB.ndec (fun h => ?_) (fun h => ?_) | refine WB.mk (fun h => ?_) (fun h => ?_)) <;> conv => whnf)
      · refine WCall.of (CallOk.mapAt Hb (lohi_pu _) (id := .h) rfl (show 1 < Pos.nat (.i .h) from by decide) (mp_at (by simp [PuL, Pu]))) ?_; conv => whnf
        repeat' first | ((first | with_reducible apply WB.tt | with_reducible apply WB.ff | refine Rn.seq ?_ | refine Rn.reg ?_ | refine Rn.drw ?_ | refine Rn.blk ?_ | refine Rn.skip ?_ | refine Rn.ret ?_ | refine Rn.exit ?_ | refine Rn.cond rfl ?_ | refine And.intro (InR.i64 (by omega) (by omega)) ?_ | refine And.intro (show _ ≠ (0 : Int) by omega) ?_ | refine WIx.intsN (by omega) ?_ | refine WIx.rowsN (by omega) ?_ | refine WCall.pure (cV) ?_ | with_reducible refine WB.decT (by first | with_reducible rfl | assumption | omega | exact ⟨rfl, rfl⟩) ?_ | with_reducible refine WB.decF (by first | assumption | omega) ?_ | with_reducible refine WB.ndT (by first | with_reducible rfl | assumption | omega | exact ⟨rfl, rfl⟩) ?_ | with_reducible refine WB.ndF (by first | assumption | omega) ?_ | with_reducible refine WB.nt ?_ | with_reducible refine WB.nf ?_ | with_reducible refine WB.dec (fun h => ?_) (fun h => ?_) | with_reducible refine WB.ndec (fun h => ?_) (fun h => ?_) | refine WB.mk (fun h => ?_) (fun h => ?_)) <;> conv => whnf)
        refine WSt.app_first (r := [.i .i64 (vdO B aft (fst + 0))]) rfl (.inl rfl) rfl rfl rfl rfl ?_; conv => whnf
        repeat' first | ((first | with_reducible apply WB.tt | with_reducible apply WB.ff | refine Rn.seq ?_ | refine Rn.reg ?_ | refine Rn.drw ?_ | refine Rn.blk ?_ | refine Rn.skip ?_ | refine Rn.ret ?_ | refine Rn.exit ?_ | refine Rn.cond rfl ?_ | refine And.intro (InR.i64 (by omega) (by omega)) ?_ | refine And.intro (show _ ≠ (0 : Int) by omega) ?_ | refine WIx.intsN (by omega) ?_ | refine WIx.rowsN (by omega) ?_ | with_reducible refine WB.decT (by first | with_reducible rfl | assumption | omega | exact ⟨rfl, rfl⟩) ?_ | with_reducible refine WB.decF (by first | assumption | omega) ?_ | with_reducible refine WB.ndT (by first | with_reducible rfl | assumption | omega | exact ⟨rfl, rfl⟩) ?_ | with_reducible refine WB.ndF (by first | assumption | omega) ?_ | with_reducible refine WB.nt ?_ | with_reducible refine WB.nf ?_ | with_reducible refine WB.dec (fun h => ?_) (fun h => ?_) | with_reducible refine WB.ndec (fun h => ?_) (fun h => ?_) | refine WB.mk (fun h => ?_) (fun h => ?_)) <;> conv => whnf)
        have ht : (vdL B aft fst).take 1 = [vdO B aft (fst + 0)] := by
          rw [take_succ_getD (d := 0) (show 0 < (vdL B aft fst).length by rw [vdL_len]; omega), vdL_at (by omega)]; rfl
        refine Again.to (1, M') (show B.n.toNat - 1 < B.n.toNat - 0 by omega) ⟨show 1 ≤ B.n.toNat by omega, hM'⟩ (Nat.le_of_ble_eq_true rfl) ?_
        refine Shr.of ?_ ?_ rfl rfl
        · (repeat' first | exact Rel.e | refine Rel.some ?_ ?_ ?_ | refine Rel.none ?_ ?_ | refine Rel.ee ?_ ?_)
          all_goals show Fz _ _ _ _
          all_goals first | exact .kpt (show _ < _ by simp [Pos.nat]) | exact .ksl (show _ < _ by simp [Pos.nat]) | exact .pu trivial | (refine Fz.i ?_; omega)
        · (repeat' first | exact Rel.e | refine Rel.some ?_ ?_ ?_ | refine Rel.none ?_ ?_ | refine Rel.ee ?_ ?_)
          all_goals first
            | exact RO'.of (show Pos.nat _ < Pos.nat _ by simp [Pos.nat]) (ShC.kp mapL_kp)
            | exact RO'.of (show Pos.nat _ < Pos.nat _ by simp [Pos.nat]) (ShC.kp (wkCl_kp B (by simp [Pos.nat])))
            | (refine RO'.of (show Pos.nat _ < Pos.nat _ by simp [Pos.nat]) ?_
               show ShC _ _ _ (.cells false ((((vdL B aft fst).take 1).map fun n => D.i .i64 n).map fun d => Cell.o d 0) 1)
               rw [ht]
               exact ShC.same (ShC.cn (.pu trivial) ShC.nl))
    · have hM : MOk B M := hM
      have hj : j + 1 ≤ B.n.toNat := hj
      conv => whnf
      repeat' first | ((first | with_reducible apply WB.tt | with_reducible apply WB.ff | refine Rn.seq ?_ | refine Rn.reg ?_ | refine Rn.drw ?_ | refine Rn.blk ?_ | refine Rn.skip ?_ | refine Rn.ret ?_ | refine Rn.exit ?_ | refine Rn.cond rfl ?_ | refine And.intro (InR.i64 (by omega) (by omega)) ?_ | refine And.intro (show _ ≠ (0 : Int) by omega) ?_ | refine WIx.intsN (by omega) ?_ | refine WIx.rowsN (by omega) ?_) <;> conv => whnf)
      refine WB.dec (fun h => ?_) (fun h => ?_) <;> conv => whnf
      · have hlt : j + 1 < B.n.toNat := by omega
        obtain ⟨M', hM', Hb⟩ := j_bounds V (ask_isOut B (fst + (j + 1)) (by omega)) ha hne M hM
        have cV := j_verd (aft := aft) (x := fst + (j + 1)) hne
        rw [show ((fst + (j + 1) : Nat) : Int) = (fst : Int) + ((j + 1 : Nat) : Int) by omega] at Hb
        repeat' first | ((first | with_reducible apply WB.tt | with_reducible apply WB.ff | refine Rn.seq ?_ | refine Rn.reg ?_ | refine Rn.drw ?_ | refine Rn.blk ?_ | refine Rn.skip ?_ | refine Rn.ret ?_ | refine Rn.exit ?_ | refine Rn.cond rfl ?_ | refine And.intro (InR.i64 (by omega) (by omega)) ?_ | refine And.intro (show _ ≠ (0 : Int) by omega) ?_ | refine WIx.intsN (by omega) ?_ | refine WIx.rowsN (by omega) ?_ | with_reducible refine WB.decT (by first | with_reducible rfl | assumption | omega | exact ⟨rfl, rfl⟩) ?_ | with_reducible refine WB.decF (by first | assumption | omega) ?_ | with_reducible refine WB.ndT (by first | with_reducible rfl | assumption | omega | exact ⟨rfl, rfl⟩) ?_ | with_reducible refine WB.ndF (by first | assumption | omega) ?_ | with_reducible refine WB.nt ?_ | with_reducible refine WB.nf ?_ | with_reducible refine WB.dec (fun h => ?_) (fun h => ?_) | with_reducible refine WB.ndec (fun h => ?_) (fun h => ?_) | refine WB.mk (fun h => ?_) (fun h => ?_)) <;> conv => whnf)
        refine WCall.of (CallOk.mapAt Hb (lohi_pu _) (id := .h) rfl (show 1 < Pos.nat (.i (.o .h)) from by decide) (mp_at (by simp [PuL, Pu]))) ?_; conv => whnf
        repeat' first | ((first | with_reducible apply WB.tt | with_reducible apply WB.ff | refine Rn.seq ?_ | refine Rn.reg ?_ | refine Rn.drw ?_ | refine Rn.blk ?_ | refine Rn.skip ?_ | refine Rn.ret ?_ | refine Rn.exit ?_ | refine Rn.cond rfl ?_ | refine And.intro (InR.i64 (by omega) (by omega)) ?_ | refine And.intro (show _ ≠ (0 : Int) by omega) ?_ | refine WIx.intsN (by omega) ?_ | refine WIx.rowsN (by omega) ?_ | refine WCall.pure (cV) ?_ | with_reducible refine WB.decT (by first | with_reducible rfl | assumption | omega | exact ⟨rfl, rfl⟩) ?_ | with_reducible refine WB.decF (by first | assumption | omega) ?_ | with_reducible refine WB.ndT (by first | with_reducible rfl | assumption | omega | exact ⟨rfl, rfl⟩) ?_ | with_reducible refine WB.ndF (by first | assumption | omega) ?_ | with_reducible refine WB.nt ?_ | with_reducible refine WB.nf ?_ | with_reducible refine WB.dec (fun h => ?_) (fun h => ?_) | with_reducible refine WB.ndec (fun h => ?_) (fun h => ?_) | refine WB.mk (fun h => ?_) (fun h => ?_)) <;> conv => whnf)
        refine WSt.app_one (ds := ((vdL B aft fst).take (j + 1)).map fun n => D.i .i64 n) (r := [.i .i64 (vdO B aft (fst + (j + 1)))]) rfl rfl rfl rfl rfl rfl (by rw [List.length_map, List.length_take, vdL_len]; omega) rfl rfl (by omega) rfl ?_; conv => whnf
        repeat' first | ((first | with_reducible apply WB.tt | with_reducible apply WB.ff | refine Rn.seq ?_ | refine Rn.reg ?_ | refine Rn.drw ?_ | refine Rn.blk ?_ | refine Rn.skip ?_ | refine Rn.ret ?_ | refine Rn.exit ?_ | refine Rn.cond rfl ?_ | refine And.intro (InR.i64 (by omega) (by omega)) ?_ | refine And.intro (show _ ≠ (0 : Int) by omega) ?_ | refine WIx.intsN (by omega) ?_ | refine WIx.rowsN (by omega) ?_ | with_reducible refine WB.decT (by first | with_reducible rfl | assumption | omega | exact ⟨rfl, rfl⟩) ?_ | with_reducible refine WB.decF (by first | assumption | omega) ?_ | with_reducible refine WB.ndT (by first | with_reducible rfl | assumption | omega | exact ⟨rfl, rfl⟩) ?_ | with_reducible refine WB.ndF (by first | assumption | omega) ?_ | with_reducible refine WB.nt ?_ | with_reducible refine WB.nf ?_ | with_reducible refine WB.dec (fun h => ?_) (fun h => ?_) | with_reducible refine WB.ndec (fun h => ?_) (fun h => ?_) | refine WB.mk (fun h => ?_) (fun h => ?_)) <;> conv => whnf)
        have ht : (vdL B aft fst).take (j + 2) = (vdL B aft fst).take (j + 1) ++ [vdO B aft (fst + (j + 1))] := by
          rw [take_succ_getD (d := 0) (show j + 1 < (vdL B aft fst).length by rw [vdL_len]; omega), vdL_at (by omega)]
        refine Again.to (j + 2, M') (show B.n.toNat - (j + 2) < B.n.toNat - (j + 1) by omega) ⟨show j + 2 ≤ B.n.toNat by omega, hM'⟩ (Nat.le_of_ble_eq_true rfl) ?_
        refine Shr.of ?_ ?_ rfl rfl
        · (repeat' first | exact Rel.e | refine Rel.some ?_ ?_ ?_ | refine Rel.none ?_ ?_ | refine Rel.ee ?_ ?_)
          all_goals show Fz _ _ _ _
          all_goals first | exact .kpt (show _ < _ by simp [Pos.nat]) | exact .ksl (show _ < _ by simp [Pos.nat]) | exact .pu trivial | (refine Fz.i ?_; omega)
        · (repeat' first | exact Rel.e | refine Rel.some ?_ ?_ ?_ | refine Rel.none ?_ ?_ | refine Rel.ee ?_ ?_)
          all_goals first
            | exact RO'.of (show Pos.nat _ < Pos.nat _ by simp [Pos.nat]) (ShC.kp mapL_kp)
            | exact RO'.of (show Pos.nat _ < Pos.nat _ by simp [Pos.nat]) (ShC.kp (wkCl_kp B (by simp [Pos.nat])))
            | (refine RO'.of (show Pos.nat _ < Pos.nat _ by simp [Pos.nat]) ?_
               show ShC _ _ (.cells false (((((vdL B aft fst).take (j + 1)).map fun n => D.i .i64 n).map fun d => Cell.o d j) ++ [D.i .i64 (vdO B aft (fst + (j + 1)))].map fun d => Cell.o d (j + 1)) (j + 1 + 1)) (.cells false ((((vdL B aft fst).take (j + 2)).map fun n => D.i .i64 n).map fun d => Cell.o d (j + 1)) (j + 1 + 1))
               rw [ht, List.map_append]
               refine ShC.grown (by omega) (PuL_iff.2 fun d hd => ?_)
               rcases List.mem_append.1 hd with h | h
               · exact PuL_iff.1 (puL_map_j _) d h
               · rw [List.mem_singleton.1 h]; trivial)
      · repeat' first | ((first | with_reducible apply WB.tt | with_reducible apply WB.ff | refine Rn.seq ?_ | refine Rn.reg ?_ | refine Rn.drw ?_ | refine Rn.blk ?_ | refine Rn.skip ?_ | refine Rn.ret ?_ | refine Rn.exit ?_ | refine Rn.cond rfl ?_ | refine And.intro (InR.i64 (by omega) (by omega)) ?_ | refine And.intro (show _ ≠ (0 : Int) by omega) ?_ | refine WIx.intsN (by omega) ?_ | refine WIx.rowsN (by omega) ?_) <;> conv => whnf)
        refine ⟨_, _, ⟨M, hM, rfl, rfl⟩, ⟨.inr rfl, ⟨_, rfl, ?_⟩, Shr.kp ?_ (mapP_kp M)⟩⟩
        · exact Fz.whole (cs := (((vdL B aft fst).take (j + 1)).map fun n => D.i .i64 n).map fun d => Cell.o d j) (cur := j + 1) (show ¬ 4 < 2 by omega) rfl (by rw [ints_length, vdL_len]; omega) (ints_one' _) (by rw [ints_flatten, List.take_of_length_le (by rw [vdL_len]; omega)]) (pu_ints _)
        · show T.le (T.n .e (some (.map (mapL M))) .e : T Ev.C) _
          refine T.le_some (T.le_e _) rfl (T.le_e _))
  exact ⟨M', hM', Hb⟩
end Go.Ev
namespace Go.Ev
open Go.Proofs
set_option maxRecDepth 100000
def outT (n coin box : Int) (ls : List Ln) (cs : List Ct) (after : Int) : D :=
  if sE n coin box ls cs (inR after 0 ls.length) = 0 then .tp [.lst 1 (ints (vdL (B5 n coin box ls cs) after.toNat 0)), .lst 1 (ints (vdL (B5 n coin box ls cs) after.toNat 4)), .i .i64 0] else .tp [.lst 1 [], .lst 1 [], .i .i64 (sE n coin box ls cs (inR after 0 ls.length))]
theorem j_OutP (n coin box : Int) (ls : List Ln) (cs : List Ct) (after : Int) : PureF Try.prog p34.ix [.ag [.i .i64 n, .i .i64 coin, .i .i64 box, .lst 3 (rows lnD ls), .lst 3 (rows ctD cs)], .i .i64 after] (outT n coin box ls cs after) := by
  have e1 := rows_length lnD ls
  have cU : PureF Try.prog p86.ix [.i .i64 after, .i .i64 ((rows lnD ls).length : Int)] (.b (inR after 0 ls.length)) := by
    have := j_upTo after ((rows lnD ls).length : Int)
    rw [e1] at this ⊢
    exact this
  unfold outT
  by_cases hE : sE n coin box ls cs (inR after 0 ls.length) = 0
  · rw [if_pos hE]
    obtain ⟨hf, ht⟩ := sE_fault hE
    have hE' := hE
    rw [ht] at hE' cU
    obtain ⟨M, hM, Hs⟩ := j_startO n coin box ls cs hE'
    have ha := inR_iff.1 ht
    have V := VB.of hf
    obtain ⟨M', hM', Hb⟩ := j_verdicts V (aft := after.toNat) (fst := 0) (show after.toNat ≤ ls.length by omega) (by omega) (ex_ne hE) M hM
    obtain ⟨M'', hM'', Hc⟩ := j_verdicts V (aft := after.toNat) (fst := 4) (show after.toNat ≤ ls.length by omega) (by omega) (ex_ne hE) M' hM'
    rw [show ((after.toNat : Nat) : Int) = after by omega] at Hb Hc
    refine PureF.run fn33 (by simp) (by simp [PuL, PuE, Pu, pu_ints, pu_ln, pu_ct]) ?_; conv => whnf
    repeat' first | ((first | with_reducible apply WB.tt | with_reducible apply WB.ff | refine Rn.seq ?_ | refine Rn.reg ?_ | refine Rn.drw ?_ | refine Rn.blk ?_ | refine Rn.skip ?_ | refine Rn.ret ?_ | refine Rn.exit ?_ | refine Rn.cond rfl ?_ | refine And.intro (InR.i64 (by omega) (by omega)) ?_ | refine And.intro (show _ ≠ (0 : Int) by omega) ?_ | refine WIx.intsN (by omega) ?_ | refine WIx.rowsN (by omega) ?_ | refine WCall.pure (cU) ?_ | with_reducible refine WB.decT (by first | with_reducible rfl | assumption | omega | exact ⟨rfl, rfl⟩) ?_ | with_reducible refine WB.decF (by first | assumption | omega) ?_ | with_reducible refine WB.ndT (by first | with_reducible rfl | assumption | omega | exact ⟨rfl, rfl⟩) ?_ | with_reducible refine WB.ndF (by first | assumption | omega) ?_ | with_reducible refine WB.nt ?_ | with_reducible refine WB.nf ?_ | with_reducible refine WB.dec (fun h => ?_) (fun h => ?_) | with_reducible refine WB.ndec (fun h => ?_) (fun h => ?_) | refine WB.mk (fun h => ?_) (fun h => ?_)) <;> conv => whnf)
    refine WCall.of (start_at Hs) ?_; conv => whnf
    repeat' first | ((first | with_reducible apply WB.tt | with_reducible apply WB.ff | refine Rn.seq ?_ | refine Rn.reg ?_ | refine Rn.drw ?_ | refine Rn.blk ?_ | refine Rn.skip ?_ | refine Rn.ret ?_ | refine Rn.exit ?_ | refine Rn.cond rfl ?_ | refine And.intro (InR.i64 (by omega) (by omega)) ?_ | refine And.intro (show _ ≠ (0 : Int) by omega) ?_ | refine WIx.intsN (by omega) ?_ | refine WIx.rowsN (by omega) ?_ | with_reducible refine WB.decT (by first | with_reducible rfl | assumption | omega | exact ⟨rfl, rfl⟩) ?_ | with_reducible refine WB.decF (by first | assumption | omega) ?_ | with_reducible refine WB.ndT (by first | with_reducible rfl | assumption | omega | exact ⟨rfl, rfl⟩) ?_ | with_reducible refine WB.ndF (by first | assumption | omega) ?_ | with_reducible refine WB.nt ?_ | with_reducible refine WB.nf ?_ | with_reducible refine WB.dec (fun h => ?_) (fun h => ?_) | with_reducible refine WB.ndec (fun h => ?_) (fun h => ?_) | refine WB.mk (fun h => ?_) (fun h => ?_)) <;> conv => whnf)
    refine WCall.of (CallOk.mapAt Hb (pu_ints _) (id := .o .h) rfl (show 2 < 4 from by decide) (mp_at (show PuL [.i .i64 after, .i .i64 ((0 : Nat) : Int)] from ⟨trivial, trivial, trivial⟩))) ?_; conv => whnf
    repeat' first | ((first | with_reducible apply WB.tt | with_reducible apply WB.ff | refine Rn.seq ?_ | refine Rn.reg ?_ | refine Rn.drw ?_ | refine Rn.blk ?_ | refine Rn.skip ?_ | refine Rn.ret ?_ | refine Rn.exit ?_ | refine Rn.cond rfl ?_ | refine And.intro (InR.i64 (by omega) (by omega)) ?_ | refine And.intro (show _ ≠ (0 : Int) by omega) ?_ | refine WIx.intsN (by omega) ?_ | refine WIx.rowsN (by omega) ?_ | with_reducible refine WB.decT (by first | with_reducible rfl | assumption | omega | exact ⟨rfl, rfl⟩) ?_ | with_reducible refine WB.decF (by first | assumption | omega) ?_ | with_reducible refine WB.ndT (by first | with_reducible rfl | assumption | omega | exact ⟨rfl, rfl⟩) ?_ | with_reducible refine WB.ndF (by first | assumption | omega) ?_ | with_reducible refine WB.nt ?_ | with_reducible refine WB.nf ?_ | with_reducible refine WB.dec (fun h => ?_) (fun h => ?_) | with_reducible refine WB.ndec (fun h => ?_) (fun h => ?_) | refine WB.mk (fun h => ?_) (fun h => ?_)) <;> conv => whnf)
    refine WCall.of (CallOk.mapAt Hc (pu_ints _) (id := .o .h) rfl (show 2 < 4 from by decide) (mp_at (show PuL [.i .i64 after, .i .i64 ((4 : Nat) : Int)] from ⟨trivial, trivial, trivial⟩))) ?_; conv => whnf
    repeat' first | ((first | with_reducible apply WB.tt | with_reducible apply WB.ff | refine Rn.seq ?_ | refine Rn.reg ?_ | refine Rn.drw ?_ | refine Rn.blk ?_ | refine Rn.skip ?_ | refine Rn.ret ?_ | refine Rn.exit ?_ | refine Rn.cond rfl ?_ | refine And.intro (InR.i64 (by omega) (by omega)) ?_ | refine And.intro (show _ ≠ (0 : Int) by omega) ?_ | refine WIx.intsN (by omega) ?_ | refine WIx.rowsN (by omega) ?_ | with_reducible refine WB.decT (by first | with_reducible rfl | assumption | omega | exact ⟨rfl, rfl⟩) ?_ | with_reducible refine WB.decF (by first | assumption | omega) ?_ | with_reducible refine WB.ndT (by first | with_reducible rfl | assumption | omega | exact ⟨rfl, rfl⟩) ?_ | with_reducible refine WB.ndF (by first | assumption | omega) ?_ | with_reducible refine WB.nt ?_ | with_reducible refine WB.nf ?_ | with_reducible refine WB.dec (fun h => ?_) (fun h => ?_) | with_reducible refine WB.ndec (fun h => ?_) (fun h => ?_) | refine WB.mk (fun h => ?_) (fun h => ?_)) <;> conv => whnf)
    exact ⟨.inr rfl, _, rfl, .tp (.cons (.pu (pu_ints _)) (.cons (.pu (pu_ints _)) (.cons (.pu trivial) .nil)))⟩
  · rw [if_neg hE]
    have cS := j_startE n coin box ls cs _ hE
    generalize sE n coin box ls cs (inR after 0 ls.length) = e at hE cS ⊢
    unfold wkQ B5 zwk at cS
    refine PureF.run fn33 (by simp) (by simp [PuL, PuE, Pu, pu_ints, pu_ln, pu_ct]) ?_; conv => whnf
    repeat' first | ((first | with_reducible apply WB.tt | with_reducible apply WB.ff | refine Rn.seq ?_ | refine Rn.reg ?_ | refine Rn.drw ?_ | refine Rn.blk ?_ | refine Rn.skip ?_ | refine Rn.ret ?_ | refine Rn.exit ?_ | refine Rn.cond rfl ?_ | refine And.intro (InR.i64 (by omega) (by omega)) ?_ | refine And.intro (show _ ≠ (0 : Int) by omega) ?_ | refine WIx.intsN (by omega) ?_ | refine WIx.rowsN (by omega) ?_ | refine WCall.pure (cU) ?_ | refine WCall.pure (cS) ?_ | with_reducible refine WB.decT (by first | with_reducible rfl | assumption | omega | exact ⟨rfl, rfl⟩) ?_ | with_reducible refine WB.decF (by first | assumption | omega) ?_ | with_reducible refine WB.ndT (by first | with_reducible rfl | assumption | omega | exact ⟨rfl, rfl⟩) ?_ | with_reducible refine WB.ndF (by first | assumption | omega) ?_ | with_reducible refine WB.nt ?_ | with_reducible refine WB.nf ?_ | with_reducible refine WB.dec (fun h => ?_) (fun h => ?_) | with_reducible refine WB.ndec (fun h => ?_) (fun h => ?_) | refine WB.mk (fun h => ?_) (fun h => ?_)) <;> conv => whnf)
    all_goals first
      | (exfalso; omega)
      | exact ⟨.inr rfl, _, rfl, .tp (.cons .ns (.cons .ns (.cons (.pu trivial) .nil)))⟩
end Go.Ev
namespace Go.Ev
open Go.Proofs
set_option maxRecDepth 100000
deriving instance DecidableEq for Ln
def lnK (l : Ln) : D := .ag (lnD l)
def lnLK : List LK := [.i .i64, .i .i64, .i .i64]
theorem ln_key : KeyOk lnLK lnK lnWf := ⟨fun a b ha hb => by
  have hk : kEq .i64 .i64 = true := rfl
  obtain ⟨a1, a2, a3⟩ := a
  obtain ⟨b1, b2, b3⟩ := b
  obtain ⟨h1, h2, h3⟩ := ha
  obtain ⟨k1, k2, k3⟩ := hb
  simp only at h1 h2 h3 k1 k2 k3
  simp only [lnLK, lnK, lnD, eqR, eqL, eqC, hk, h1, h2, h3, k1, k2, k3, Bool.and_self, cond_true, Option.some.injEq, eqB_eq, Bool.and_true]
  rw [Bool.eq_iff_iff]
  simp [Ln.mk.injEq]⟩
abbrev Met := List (Ln × Bool)
def metL (m : Met) : List (D × D) := m.map (enD lnK boD)
theorem metL_kp {n : Nat} {m : Met} : KpC n (.map (metL m)) := fun e he => by
  obtain ⟨p, _, rfl⟩ := List.mem_map.1 he
  simp [enD, lnK, lnD, boD, Kp, KpL, Pu]
def lsD (m : Mo) : List D := [.i .i64 m.last.k, .i .i64 m.last.c, .i .i64 m.last.t]
theorem readLast {β : Type} (F : Nat → Mo) {q : Nat} (hq : q < 9) (k : List D → Option β) : readK 0 3 (dropC (0 + q * 14 + 11) ((mo126 F).map fun d => Cell.o d 0)) k = k (lsD (F q)) := by
  rw [dropC_eq]
  rcases nineT hq with rfl | rfl | rfl | rfl | rfl | rfl | rfl | rfl | rfl <;> rfl
theorem wSt.ldLast {sl : T D} {ob : T Ev.C} {nx : Pos} {lg : Option (T Bool)} {K : X → Prop} {d id : Pos} {cs : List Cell} {F : Nat → Mo} {q : Nat} {x : RX} (hx : opd sl x = some (.pt id (0 + q * 14 + 11) 0)) (ho : ob.get id = some (.cells false cs 1)) (hcs : cs = (mo126 F).map fun d => Cell.o d 0) (hq : q < 9) (h : lRK lg id fun lg => wOut sl ob nx lg d K (.ag (lsD (F q)))) : wSt (step (.ldn d x 3) sl ob nx lg) K := by
  subst hcs
  obtain ⟨l1, e1, h⟩ := lRK_ex h
  obtain ⟨h2, h3⟩ := wOut_ok h
  refine wSt.ok ?_ h3
  show s_ldn d x 3 sl ob nx lg = _
  unfold s_ldn
  rw [hx]
  simp only [ho, readLast F hq, e1]
  exact h2
def wsS : T D := (.n (.n (.n .e (some (.pt (.i .h) 0 0)) (.n .e (some (.fn p136 [] [.pt i6 0 0])) .e)) none (.n .e (some (.pt (.i (.o .h)) 0 0)) .e)) none (.n .e (some (.pt (.o .h) 0 0)) .e))
noncomputable def wsM (B : Bk) (line : Nat) : Tns Met where
  o := fun i s => match i with
    | 2 => some (wkCl B)
    | 3 => some (.cells false [.o (.i .i64 (line : Int)) 0] 1)
    | 4 => some (.map (metL s))
    | 5 => some (.cells false [.o (.mp (.o (.o .h))) 0] 1)
    | 7 => some (.lp wsS [p13] 36 (rfA (bodyC Try.f91) 0) (rfB (bodyC Try.f91) 0) .ready none)
    | 11 => some .hole
    | _ => none
theorem wsS_kp : ∀ s d, wsS.get s = some d → Kp 11 d := by
  show TAll (fun _ d => Kp 11 d) wsS
  unfold wsS
  repeat' first | exact TAll.e | refine TAll.some ?_ ?_ ?_ | refine TAll.none ?_ ?_
  all_goals simp [Kp, KpL, i6, Pos.nat]
theorem ws_kp (B : Bk) (line : Nat) (M : Memo) (F : Nat → Mo) (s : Met) : KpO 12 ((wsM B line).ob B M F s) := by
  show TAll (fun id c => id.nat < 12 ∧ KpC 12 c) _
  unfold Tns.ob trL wsM
  repeat' first | exact TAll.e | refine TAll.some ?_ ?_ ?_ | refine TAll.none ?_ ?_
  all_goals refine ⟨by simp [Pos.nat], ?_⟩
  all_goals first
    | exact mapL_kp
    | exact metL_kp
    | exact fun s d h => (wsS_kp s d h).up (by omega)
    | exact puC (kp_mo126 _ _)
    | exact wkCl_kp B (by omega)
    | trivial
    | (refine KpL.all ?_; simp [KpL, Kp, Cell.d, Pu, rdF, i6, i7, i8, i9, i10, Pos.nat])
def wsI (line : Nat) (h : List (List Ln)) (s : Met) : Prop := (∀ e ∈ s, lnWf e.1 ∧ e.2 = true) ∧ ∀ l, (l, true) ∈ s ↔ ∃ X ∈ h, X.getD line default = l
def wsR (line : Nat) (s : Met) (X : List Ln) (s' : Met) (g : Bool) : Prop := g = true ∧ (∀ e ∈ s', e = (X.getD line default, true) ∨ e ∈ s) ∧ (X.getD line default, true) ∈ s' ∧ ∀ e ∈ s, e.1 = X.getD line default ∨ e ∈ s'
theorem ws_wf {B : Bk} (V : VB B) {X : List Ln} (h : X ∈ exT B B.ls.length []) {i : Nat} (hi : i < B.ls.length) : lnWf (X.getD i default) := by
  have hX := mem_exT.1 h
  have hl : X.length = B.ls.length := by have := hX.len; simpa using this
  obtain ⟨h1, _⟩ := hX.st i (Nat.zero_le _) (by omega)
  obtain ⟨hk, hc, ht⟩ := V.rd hi h1
  exact ⟨wf_small (by omega) (by omega), wf_small (by omega) (by omega), wf_small (by omega) (by omega)⟩
set_option maxHeartbeats 1000000 in
theorem ws_ok {B : Bk} (V : VB B) {line : Nat} (hl : line < B.ls.length) : TnsOk (wsM B line) B (wsI line) (wsR line) := by
  have hL := V.len
  refine ⟨fun M F s => ws_kp B line M F s, ?_, ?_⟩
  · rintro h s X s' hpre ⟨hI1, hI2⟩ ⟨_, r1, r2, r3⟩
    have hXe : X ∈ exT B B.ls.length [] := hpre.subset (show X ∈ h ++ [X] by simp)
    refine ⟨fun e he => ?_, fun l => ?_⟩
    · rcases r1 e he with rfl | he
      · exact ⟨ws_wf V hXe hl, rfl⟩
      · exact hI1 e he
    · constructor
      · intro hm
        rcases r1 _ hm with h1 | h1
        · exact ⟨X, by simp, (Prod.mk.inj h1).1.symm⟩
        · obtain ⟨Y, hY, e⟩ := (hI2 l).1 h1
          exact ⟨Y, by simp [hY], e⟩
      · rintro ⟨Y, hY, rfl⟩
        rcases List.mem_append.1 hY with hY | hY
        · rcases r3 _ ((hI2 _).2 ⟨Y, hY, rfl⟩) with h1 | h1
          · have h1 : Y.getD line default = X.getD line default := h1
            rw [h1]; exact r2
          · exact h1
        · rw [List.mem_singleton.1 hY]; exact r2
  · rintro h s ⟨hI1, hI2⟩ X hpre M hM
    have hXe : X ∈ exT B B.ls.length [] := hpre.subset (show X ∈ h ++ [X] by simp)
    have hXl : X.length = B.ls.length := by have := (mem_exT.1 hXe).len; simpa using this
    have hmo : moF B.box B.coin X X.length (line + 1) = moR B.box B.coin X (line + 1) := moF_le (by omega)
    have hlast : lsD (moR B.box B.coin X (line + 1)) = lnD (X.getD line default) := rfl
    have hwf := ws_wf V hXe hl
    generalize hx : X.getD line default = x at hlast hwf
    generalize hF : moF B.box B.coin X X.length = F at hmo ⊢
    refine RndOk.runE (sl0 := wsS) rfl rc91a0_ok rc91b0_ok ⟨_, rfl, ?_⟩
    unfold Tns.ob trL wsM wsS
    conv => whnf
    repeat' first | ((first | with_reducible apply WB.tt | with_reducible apply WB.ff | refine Rn.seq ?_ | refine Rn.reg ?_ | refine Rn.drw ?_ | refine Rn.blk ?_ | refine Rn.skip ?_ | refine Rn.ret ?_ | refine Rn.exit ?_ | refine Rn.cond rfl ?_ | refine And.intro (InR.i64 (by omega) (by omega)) ?_ | refine And.intro (show _ ≠ (0 : Int) by omega) ?_ | refine WIx.intsN (by omega) ?_ | refine WIx.rowsN (by omega) ?_) <;> conv => whnf)
    refine ⟨rfl, rfl, _, _, _, _, _, _, rfl, ?_⟩
    conv => whnf
    repeat' first | ((first | with_reducible apply WB.tt | with_reducible apply WB.ff | refine Rn.seq ?_ | refine Rn.reg ?_ | refine Rn.drw ?_ | refine Rn.blk ?_ | refine Rn.skip ?_ | refine Rn.ret ?_ | refine Rn.exit ?_ | refine Rn.cond rfl ?_ | refine And.intro (InR.i64 (by omega) (by omega)) ?_ | refine And.intro (show _ ≠ (0 : Int) by omega) ?_ | refine WIx.intsN (by omega) ?_ | refine WIx.rowsN (by omega) ?_) <;> conv => whnf)
    refine WSt.ixaN (m := line + 1) rfl rfl (by omega) (by omega) ?_; conv => whnf
    refine wSt.ldLast (F := F) (q := line + 1) (by rfl) (by rfl) (by rfl) (by omega) ?_
    rw [hmo, hlast]
    conv => whnf
    repeat' first | ((first | with_reducible apply WB.tt | with_reducible apply WB.ff | refine Rn.seq ?_ | refine Rn.reg ?_ | refine Rn.drw ?_ | refine Rn.blk ?_ | refine Rn.skip ?_ | refine Rn.ret ?_ | refine Rn.exit ?_ | refine Rn.cond rfl ?_ | refine And.intro (InR.i64 (by omega) (by omega)) ?_ | refine And.intro (show _ ≠ (0 : Int) by omega) ?_ | refine WIx.intsN (by omega) ?_ | refine WIx.rowsN (by omega) ?_) <;> conv => whnf)
    refine WSt.mupG ln_key (w := x) (n := true) (M := s) (by rfl) (by rfl) (by rfl) (by rfl) hwf (fun e he => (hI1 e he).1) ?_
    intro s' q1 q2 q3
    conv => whnf
    repeat' first | ((first | with_reducible apply WB.tt | with_reducible apply WB.ff | refine Rn.seq ?_ | refine Rn.reg ?_ | refine Rn.drw ?_ | refine Rn.blk ?_ | refine Rn.skip ?_ | refine Rn.ret ?_ | refine Rn.exit ?_ | refine Rn.cond rfl ?_ | refine And.intro (InR.i64 (by omega) (by omega)) ?_ | refine And.intro (show _ ≠ (0 : Int) by omega) ?_ | refine WIx.intsN (by omega) ?_ | refine WIx.rowsN (by omega) ?_) <;> conv => whnf)
    refine ⟨_, _, _, _, _, _, _, (wsM B line).ob B M F s', rfl, rfl, ?_, s', ⟨rfl, by rw [hx]; exact q1, by rw [hx]; exact q2, by rw [hx]; exact q3⟩, rfl⟩
    refine Shr.kp ?_ (ws_kp B line M F s')
    unfold Tns.ob trL wsM wsS
    repeat' first | exact T.le_e _ | refine T.le_some ?_ rfl ?_ | refine T.le_same ?_ ?_ | refine T.le_none ?_ ?_
theorem ws_fld {B : Bk} (V : VB B) {line : Nat} (hl : line < B.ls.length) : ∀ (L h : List (List Ln)) {s s' : Met} {g : Bool}, h ++ L = exT B B.ls.length [] → wsI line h s → Fld (wsR line) L s s' g → wsI line (exT B B.ls.length []) s' ∧ g = true
  | [], h, s, s', g, he, hI, hF => by
    cases hF
    rw [List.append_nil] at he
    rw [← he]
    exact ⟨hI, rfl⟩
  | X :: L, h, s, s', g, he, hI, hF => by
    cases hF with
    | stop k => cases k.1
    | go k k2 =>
      have he2 : (h ++ [X]) ++ L = exT B B.ls.length [] := by rw [← he]; simp
      refine ws_fld V hl L (h ++ [X]) he2 ?_ k2
      exact (ws_ok V hl).inv h s X _ ⟨L, he2⟩ hI k
end Go.Ev
namespace Go.Ev
open Go.RowKit (Below Grown)
section
variable {γ γ' : Gh} {w : World} {n : Nat}
theorem HoldsO.kp2 {P : Program} (him : ∀ b, γ.im b → γ'.im b) (hc : ∀ id : Pos, id.nat < n → γ'.cur id = γ.cur id ∧ γ'.β id = γ.β id) {id : Pos} (hid : γ'.cur id = γ.cur id ∧ γ'.β id = γ.β id) : ∀ {c : C}, KpC n c → HoldsO P γ w id c → HoldsO P γ' w id c
  | .cells ro cs cur, k, H => by
    obtain ⟨h0, h1, h2⟩ := H
    obtain ⟨e1, e2⟩ := hid
    refine ⟨h0, e1.trans h1, fun st hst => ?_⟩
    obtain ⟨vs, e, fr, h3, h4, h5⟩ := h2 st hst
    rw [e2]
    exact ⟨vs, e, fr, h3, h4, fun p c hp hh hd => by
      obtain ⟨u, h6, h7, h8⟩ := h5 p c hp hh hd
      exact ⟨u, h6, DV.kp him hc _ _ (k c (List.mem_of_getElem? hp)) h7, h8⟩⟩
  | .map es, k, H => by
    obtain ⟨h1, en, cl, h2, h3, h4⟩ := H
    obtain ⟨e1, e2⟩ := hid
    refine ⟨e1.trans h1, en, cl, by rw [e2]; exact h2, h3, fun i e f he hf => ?_⟩
    obtain ⟨k1, k2⟩ := k e (List.mem_of_getElem? he)
    exact ⟨DV.kp him hc _ _ k1 (h4 i e f he hf).1, DV.kp him hc _ _ k2 (h4 i e f he hf).2⟩
  | .lp sl ps nt asg body st jump, k, H => by
    obtain ⟨h1, l, h2, h3, h4, h5, h6⟩ := H
    obtain ⟨e1, e2⟩ := hid
    refine ⟨e1.trans h1, l, by rw [e2]; exact h2, h3, h4, fun s d hs => ⟨(h5 s d hs).1, DV.kp him hc _ _ (k s d hs) (h5 s d hs).2⟩, h6⟩
  | .hole, _, H => (hid).1.trans H
end
structure Fill2 (nx a : Pos) (ob1 ob2 : T C) : Prop where
  ok : ∃ (r q : Pos) (ro : Bool) (n st z k m st0 cur : Nat) (ds : List D), r.nat < nx.nat ∧ q.nat < r.nat ∧ ob1.get r = some .hole ∧ PuL ds ∧
    ob1.get a = some (.cells false (ds.map fun d => Cell.o d st0) cur) ∧ ob1.get q = some (.cells ro [.o (.sl a 0 n st z) k] m) ∧
    ∀ i ci, ob2.get i = some ci → (i = r ∧ ci = .cells false (ds.map fun d => Cell.o d st0) cur) ∨ (i = q ∧ ci = .cells ro [.o (.sl r 0 n st z) k] m) ∨ (i ≠ r ∧ i.nat < nx.nat ∧ ob1.get i = some ci ∧ KpC r.nat ci)
open Classical in
theorem RndOk.fill2 {P : Program} {id : Pos} {ds : List D} {ob ob1 ob2 : T C} {nx nx1 a : Pos} {v : D} (h : RndOk P id ds ob nx none v ob1 nx1 none) (hv : Pu v) (ha : nx.nat ≤ a.nat) (F : Fill2 nx a ob1 ob2) : RndOk P id ds ob nx none v ob2 nx none := by
  obtain ⟨r, q, ro, n, st, z, k, m, st0, cu, dz, hr, hq, hole, hpu, hn, hqq, hrest⟩ := F.ok
  refine ⟨LgLe.refl _, Nat.le_refl _, fun id hn => absurd trivial hn, fun so hs γ args w gh hargs hob hnx hcur => ?_⟩
  have hall : ∀ id, so id := fun id => hs id trivial
  obtain ⟨fn, tmps, asg, body, h1, h2⟩ := h.ok so (fun id _ => hall id) γ args w gh hargs hob hnx hcur
  refine ⟨fn, tmps, asg, body, h1, fun ro' n' R hR => h2 ro' n' R fun γ1 w1 u g1 F1 hu ho hz => ?_⟩
  have hnr : a ≠ r := fun e => by rw [e] at ha; omega
  have hr1 : γ1.cur r = 0 := ho r _ (hall r) hole
  have hr0 : γ.cur r = 0 := by have := F1.up.cur r; omega
  have hnx0 : γ.cur a = 0 := hnx a (hall a) ha
  let γ2 : Gh := ⟨fun i => if i = r then γ1.cur a else if i.nat < nx.nat then γ1.cur i else 0, fun i => if i = r then γ1.β a else γ1.β i, γ1.im⟩
  have cr : γ2.cur r = γ1.cur a := by show (if _ then _ else _) = _; rw [if_pos rfl]
  have br : γ2.β r = γ1.β a := by show (if _ then _ else _) = _; rw [if_pos rfl]
  have cl : ∀ i : Pos, i ≠ r → i.nat < nx.nat → γ2.cur i = γ1.cur i := fun i hne hi => by
    show (if _ then _ else _) = _; rw [if_neg hne, if_pos hi]
  have bl : ∀ i : Pos, i ≠ r → γ2.β i = γ1.β i := fun i hi => by show (if _ then _ else _) = _; rw [if_neg hi]
  have c0 : ∀ i : Pos, i ≠ r → ¬ i.nat < nx.nat → γ2.cur i = 0 := fun i h1 h2 => by show (if _ then _ else _) = _; rw [if_neg h1, if_neg h2]
  have lt2 : ∀ i s, s < γ2.cur i → ∃ j, s < γ1.cur j ∧ γ2.β i = γ1.β j ∧ ((i = r ∧ j = a) ∨ ((i ≠ r ∧ i.nat < nx.nat) ∧ j = i)) := fun i s hi => by
    by_cases e : i = r
    · subst e; rw [cr] at hi; exact ⟨a, hi, br, .inl ⟨rfl, rfl⟩⟩
    · by_cases hl : i.nat < nx.nat
      · rw [cl i e hl] at hi; exact ⟨i, hi, bl i e, .inr ⟨⟨e, hl⟩, rfl⟩⟩
      · rw [c0 i e hl] at hi; exact absurd hi (Nat.not_lt_zero _)
  have kp : ∀ id : Pos, id.nat < r.nat → γ2.cur id = γ1.cur id ∧ γ2.β id = γ1.β id := fun i hi => ⟨cl i (fun e => by rw [e] at hi; omega) (by omega), bl i fun e => by rw [e] at hi; omega⟩
  have G2 : GH γ2 w1 := by
    refine ⟨fun i s hi => ?_, fun i s i' s' hi hi' he => ?_, fun b hb => ⟨(g1.im b hb).1, fun i s hi => ?_⟩, g1.gl.im fun _ h => h⟩
    · obtain ⟨j, k1, k2, _⟩ := lt2 i s hi
      rw [k2]; exact g1.ob j s k1
    · obtain ⟨j, k1, k2, k3⟩ := lt2 i s hi
      obtain ⟨j', k1', k2', k3'⟩ := lt2 i' s' hi'
      rw [k2, k2'] at he ⊢
      obtain ⟨e1, e2⟩ := g1.inj j s j' s' k1 k1' he
      refine ⟨?_, e2⟩
      rcases k3 with ⟨a1, a2⟩ | ⟨a1, a2⟩ <;> rcases k3' with ⟨b1, b2⟩ | ⟨b1, b2⟩
      · rw [a1, b1]
      · exfalso; rw [a2, b2] at e1; rw [← e1] at b1; omega
      · exfalso; rw [a2, b2] at e1; rw [e1] at a1; omega
      · rw [← a2, ← b2, e1]
    · obtain ⟨j, k1, k2, _⟩ := lt2 i s hi
      rw [k2]; exact (g1.im b hb).2 j s k1
  have F2 : Fr (wrtn none) γ γ2 w w1 := by
    refine ⟨⟨fun i => ?_, fun i s hi => ?_, F1.up.sh, F1.up.im⟩, fun id hn => absurd trivial hn, F1.blk, fun i s h1 h2 => ?_, F1.imn, F1.lp, F1.size, F1.os, F1.tape, F1.output, F1.fz⟩
    · by_cases e : i = r
      · subst e; rw [hr0]; exact Nat.zero_le _
      · by_cases hl : i.nat < nx.nat
        · rw [cl i e hl]; exact F1.up.cur i
        · rw [hnx i (hall i) (by omega)]; exact Nat.zero_le _
    · have e : i ≠ r := fun e => by subst e; rw [hr0] at hi; exact absurd hi (Nat.not_lt_zero _)
      rw [bl i e]; exact F1.up.β i s hi
    · obtain ⟨j, k1, k2, k3⟩ := lt2 i s h2
      rw [k2]
      rcases k3 with ⟨a1, a2⟩ | ⟨a1, a2⟩
      · subst a2
        rcases F1.new j s (by rw [hnx0]; exact Nat.zero_le _) k1 with h | ⟨s0, h, _⟩
        · exact .inl h
        · rw [hnx0] at h; exact absurd h (Nat.not_lt_zero _)
      · subst a2; exact F1.new j s h1 k1
  refine hR γ2 w1 u G2 F2 (DV.pu (γ := γ1) (γ' := γ2) (fun _ h => h) _ _ hv hu) (fun i ci _ hci => ?_) (fun i _ hi => c0 i (fun e => by rw [e] at hi; omega) (by omega))
  rcases hrest i ci hci with ⟨rfl, rfl⟩ | ⟨rfl, rfl⟩ | ⟨hne, hi, hg, hk⟩
  · obtain ⟨q0, q1, q2⟩ := ho a _ (hall a) hn
    refine ⟨q0, cr.trans q1, fun s hs => ?_⟩
    obtain ⟨vs, e, fr, q3, q4, q5⟩ := q2 s hs
    rw [br]
    refine ⟨vs, e, fr, q3, q4, fun p c hpc hh hd => ?_⟩
    obtain ⟨u', q6, q7, q8⟩ := q5 p c hpc hh hd
    refine ⟨u', q6, DV.pu (γ := γ1) (γ' := γ2) (fun _ h => h) _ _ ?_ q7, q8⟩
    obtain ⟨d, hd1, rfl⟩ := List.mem_map.1 (List.mem_of_getElem? hpc)
    exact PuL_iff.1 hpu d hd1
  · obtain ⟨q0, q1, q2⟩ := ho i _ (hall i) hqq
    obtain ⟨e1, e2⟩ := kp i hq
    refine ⟨q0, e1.trans q1, fun s hs => ?_⟩
    obtain ⟨vs, e, fr, q3, q4, q5⟩ := q2 s hs
    rw [e2]
    refine ⟨vs, e, fr, q3, q4, fun p c hpc hh hd => ?_⟩
    cases p with
    | zero =>
      have hc : c = Cell.o (.sl r 0 n st z) k := by simpa using hpc.symm
      subst hc
      obtain ⟨u', q6, q7, q8⟩ := q5 0 (Cell.o (.sl a 0 n st z) k) rfl hh hd
      refine ⟨u', q6, ?_, q8⟩
      have q7 : DV γ1 w1 (.sl a 0 n st z) u' := q7
      show DV γ2 w1 (.sl r 0 n st z) u'
      unfold DV at q7 ⊢
      rw [cr, br]
      exact q7
    | succ p => simp at hpc
  · exact HoldsO.kp2 (γ := γ1) (γ' := γ2) (fun _ h => h) kp ⟨cl i hne hi, bl i hne⟩ hk (ho i ci (hall i) hg)
structure RndEF2 (Φ : Bool → T C → Prop) (id : Pos) (nx' : Pos) (e : Ex) (z : X) : Prop where
  ok : ∃ a b m c q s j ob' ob2, z.lg = none ∧ z.ob.get id = some (.lp a b m c q s j) ∧ ∃ nx1 a0, nx'.nat ≤ nx1.nat ∧ nx'.nat ≤ a0.nat ∧ Shr ⟨.e, T.set id (.lp a b m c q (endS e) (endJ e)) z.ob, z.nx, none⟩ ⟨.e, ob', nx1, none⟩ ∧ Fill2 nx' a0 ob' ob2 ∧ Φ (endB e) ob2
theorem RndOk.runEF2 {P : Program} {id : Pos} {ds : List D} {ob : T C} {nx : Pos} {Φ : Bool → T C → Prop} {sl0 : T D} {ps : List Pos} {nt : Nat} {asg body : Code} {j0 : Option Ex} {rcA rcB : RC} (hob0 : ob.get id = some (.lp sl0 ps nt asg body .ready j0)) (hA : comp P nt asg = rcA) (hB : comp P nt body = rcB)
    (hp : parmP ps ds sl0 fun sl' => Rn P nt rcA ⟨sl', ob, nx, none⟩ (RndEA P nt rcB id (RndEF2 Φ id nx))) : ∃ g ob', Φ g ob' ∧ RndOk P id ds ob nx none (.b g) ob' nx none := by
  obtain ⟨sl', h1, h2⟩ := hp
  obtain ⟨e, ⟨s2, ob1, nx1, lg1⟩, X1, h3⟩ := h2.ok asg hA
  obtain ⟨rfl, h4, a1, b1, m1, c1, q1, j1, h5, h6⟩ := h3.ok
  have h4 : lg1 = none := h4
  subst h4
  obtain ⟨e, ⟨s3, ob3, nx3, lg3⟩, X2, h7⟩ := h6.ok body hB
  obtain ⟨a3, b3, m3, c3, q3, s3', j3, ob', ob2, k1, k2, nx1, a0, l1, l2, k3, k4, k5⟩ := h7.ok
  have k1 : lg3 = none := k1
  subst k1
  exact ⟨endB e, ob2, k5, ((RndOk.of hob0 h1 X1 h5 X2 k2).shrink k3 l1 (.pu trivial)).fill2 trivial l2 k4⟩
end Go.Ev