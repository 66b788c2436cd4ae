import Derived.Test.YtjgbfnciedkafaaEvUGd
import Derived.Test.YtjgbfnciedkafaaEvUJs
import Derived.Test.YtjgbfnciedkafaaEvUOc
import Derived.Test.YtjgbfnciedkafaaEvUIt
import Derived.Test.YtjgbfnciedkafaaEvUJb
set_option linter.all false
namespace Go.Ev
open Go.Proofs
set_option maxRecDepth 100000
theorem Fz.whole {B : Pos → Prop} {ob : T C} {id : Pos} {z st : Nat} {cs : List Cell} {cur : Nat} {es : List (List D)} {n : Nat} (hB : ¬ B id) (h : ob.get id = some (.cells false cs cur)) (hn : n = es.length) (hz : ∀ r ∈ es, r.length = z) (hc : cs = es.flatten.map fun d => Cell.o d st) (hp : PuE es) : Fz B ob (.sl id 0 n st z) (.lst z es) := by
  subst hc
  refine .sl hB h hn.symm hz (fun k d hk => ⟨.o d st, ?_, ?_, rfl⟩) (FzE.of hp)
  · rw [List.drop_zero, List.getElem?_map, hk]; rfl
  · show Nat.ble st st = true
    exact Nat.ble_eq_true_of_le (Nat.le_refl _)
def outA (B : Bk) (aft x : Nat) : List Int := ansL B aft fun m => min (m.h x) 1
def vdO (B : Bk) (aft x : Nat) : Int := vdT ((outA B aft x).foldl min ((outA B aft x).getD 0 0)) ((outA B aft x).foldl max ((outA B aft x).getD 0 0))
def vdL (B : Bk) (aft fst : Nat) : List Int := (List.range B.n.toNat).map fun i => vdO B aft (fst + i)
theorem vdL_len (B : Bk) (aft fst : Nat) : (vdL B aft fst).length = B.n.toNat := by simp [vdL]
theorem vdL_at {B : Bk} {aft fst j : Nat} (h : j < B.n.toNat) : (vdL B aft fst).getD j 0 = vdO B aft (fst + j) := by simp [vdL, List.getD, h]
theorem fold01 {L : List Int} (hne : L ≠ []) (h : ∀ x ∈ L, 0 ≤ x ∧ x ≤ 1) : (0 ≤ L.foldl min (L.getD 0 0) ∧ L.foldl min (L.getD 0 0) ≤ 1) ∧ (0 ≤ L.foldl max (L.getD 0 0) ∧ L.foldl max (L.getD 0 0) ≤ 1) := by
  have h0 : L.getD 0 0 ∈ L := by
    cases L with
    | nil => exact absurd rfl hne
    | cons a l => simp
  constructor
  · rcases foldmin_mem (L := L) (a := L.getD 0 0) with e | e
    · rw [e]; exact h _ h0
    · exact h _ e
  · rcases foldmax_mem (L := L) (a := L.getD 0 0) with e | e
    · rw [e]; exact h _ h0
    · exact h _ e
theorem outA_01 {B : Bk} {aft x : Nat} : ∀ y ∈ outA B aft x, 0 ≤ y ∧ y ≤ 1 := fun y hy => by
  obtain ⟨X, _, rfl⟩ := List.mem_map.1 hy
  have g1 := cOut_bd X (x : Int) aft
  have g2 := tOut_bd X ((x - 4 : Nat) : Int) aft
  have : 0 ≤ (moR B.box B.coin X aft).h x := by
    show 0 ≤ (if x < 4 then cOut X (x : Int) aft + 1 else tOut X ((x - 4 : Nat) : Int) aft + 1)
    split <;> omega
  show 0 ≤ min ((moR B.box B.coin X aft).h x) 1 ∧ min ((moR B.box B.coin X aft).h x) 1 ≤ 1
  omega
theorem j_verd {B : Bk} {aft x : Nat} (hne : exT B B.ls.length [] ≠ []) : PureF Try.prog p118.ix [lohi (outA B aft x)] (.i .i64 (vdO B aft x)) := by
  have hA : outA B aft x ≠ [] := fun e => hne (List.map_eq_nil_iff.1 e)
  obtain ⟨⟨a1, a2⟩, ⟨b1, b2⟩⟩ := fold01 hA outA_01
  exact j_verdict _ _ (wf_small (by omega) (by omega)) (wf_small (by omega) (by omega))
set_option maxHeartbeats 1000000 in
theorem j_verdicts {B : Bk} (V : VB B) {aft fst : Nat} (ha : aft ≤ B.ls.length) (hf : fst ≤ 4) (hne : exT B B.ls.length [] ≠ []) (M : Memo) (hM : MOk B M) :
    ∃ M', MOk B M' ∧ CallOk Try.prog p87.ix [.ag (wkQ B ++ [.mp .h]), .i .i64 (aft : Int), .i .i64 (fst : Int)] (mapP M) (.o .h) none (.lst 1 (ints (vdL B aft fst))) (mapP M') (.o .h) none := by
  have hn := V.n
  obtain ⟨v, ob', ⟨M', hM', rfl, rfl⟩, Hb⟩ := CallOk.runE (Φ := fun v ob' => ∃ M', MOk B M' ∧ v = .lst 1 (ints (vdL B aft fst)) ∧ ob' = mapP M') (ob := mapP M) (nx := .o .h) (nx' := .o .h) (ds := [.ag (wkQ B ++ [.mp .h]), .i .i64 (aft : Int), .i .i64 (fst : Int)]) fn86 (by simp) (Nat.le_refl _) (by
    unfold wkQ
    conv => whnf
    repeat' first | ((first | with_reducible apply WB.tt | with_reducible apply WB.ff | refine Rn.seq ?_ | refine Rn.reg ?_ | refine Rn.drw ?_ | refine Rn.blk ?_ | refine Rn.skip ?_ | refine Rn.ret ?_ | refine Rn.exit ?_ | refine Rn.cond rfl ?_ | refine And.intro (InR.i64 (by omega) (by omega)) ?_ | refine And.intro (show _ ≠ (0 : Int) by omega) ?_ | refine WIx.intsN (by omega) ?_ | refine WIx.rowsN (by omega) ?_) <;> conv => whnf)
    refine Rn.loop (fun (t : Nat × Memo) => match t with
      | (0, M) => ⟨(.n (.n (.n (.n .e (some (.ns)) .e) (some (.pt (.o .h) 0 0)) .e) (some (.i .i64 (aft : Int))) (.n .e none (.n .e (some (.i .i64 0)) .e))) none (.n (.n .e none (.n .e (some (.i .i64 B.n)) .e)) (some (.i .i64 (fst : Int))) .e)), (.n (.n .e (some (wkCl B)) .e) (some (.map (mapL M))) .e), .i .h, none⟩
      | (j + 1, M) => ⟨(.n (.n (.n (.n .e (some (.sl (.o (.o .h)) 0 (j + 1) j 1)) .e) (some (.pt (.o .h) 0 0)) .e) (some (.i .i64 (aft : Int))) (.n .e none (.n .e (some (.i .i64 ((j + 1 : Nat) : Int))) .e))) none (.n (.n .e none (.n .e (some (.i .i64 B.n)) .e)) (some (.i .i64 (fst : Int))) .e)), (.n (.n (.n .e (some (.cells false ((((vdL B aft fst).take (j + 1)).map fun n => D.i .i64 n).map fun d => Cell.o d j) (j + 1))) .e) (some (wkCl B)) .e) (some (.map (mapL M))) .e), .i (.o .h), none⟩) (fun t => t.1 ≤ B.n.toNat ∧ MOk B t.2) (fun t => B.n.toNat - t.1) (0, M) ?_ ?_ ?_
    · refine X.le.mk ?_ ?_ (Nat.le_refl _) rfl rfl <;> (repeat' first | exact T.le_e _ | refine T.le_some ?_ rfl ?_ | refine T.le_none ?_ ?_)
    · exact ⟨Nat.zero_le _, hM⟩
    rintro ⟨_ | j, M⟩ ⟨hj, hM⟩
    · have hM : MOk B M := hM
      obtain ⟨M', hM', Hb⟩ := j_bounds V (ask_isOut B (fst + 0) (by omega)) ha hne M hM
      have cV := j_verd (aft := aft) (x := fst + 0) hne
      rw [show ((fst + 0 : Nat) : Int) = (fst : Int) + 0 by omega] at Hb
      conv => whnf
      repeat' first | ((first | with_reducible apply WB.tt | with_reducible apply WB.ff | refine Rn.seq ?_ | refine Rn.reg ?_ | refine Rn.drw ?_ | refine Rn.blk ?_ | refine Rn.skip ?_ | refine Rn.ret ?_ | refine Rn.exit ?_ | refine Rn.cond rfl ?_ | refine And.intro (InR.i64 (by omega) (by omega)) ?_ | refine And.intro (show _ ≠ (0 : Int) by omega) ?_ | refine WIx.intsN (by omega) ?_ | refine WIx.rowsN (by omega) ?_ | with_reducible refine WB.decT (by first | with_reducible rfl | assumption | omega | exact ⟨rfl, rfl⟩) ?_ | with_reducible refine WB.decF (by first | assumption | omega) ?_ | with_reducible refine WB.ndT (by first | with_reducible rfl | assumption | omega | exact ⟨rfl, rfl⟩) ?_ | with_reducible refine WB.ndF (by first | assumption | omega) ?_ | with_reducible refine WB.nt ?_ | with_reducible refine WB.nf ?_ | with_reducible refine WB.dec (fun h => ?_) (fun h => ?_) | with_reducible refine WB.ndec (fun h => ?_) (fun h => ?_) | refine WB.mk (fun h => ?_) (fun h => ?_)) <;> conv => whnf)
      · refine WCall.of (CallOk.mapAt Hb (lohi_pu _) (id := .h) rfl (show 1 < Pos.nat (.i .h) from by decide) (mp_at (by simp [PuL, Pu]))) ?_; conv => whnf
        repeat' first | ((first | with_reducible apply WB.tt | with_reducible apply WB.ff | refine Rn.seq ?_ | refine Rn.reg ?_ | refine Rn.drw ?_ | refine Rn.blk ?_ | refine Rn.skip ?_ | refine Rn.ret ?_ | refine Rn.exit ?_ | refine Rn.cond rfl ?_ | refine And.intro (InR.i64 (by omega) (by omega)) ?_ | refine And.intro (show _ ≠ (0 : Int) by omega) ?_ | refine WIx.intsN (by omega) ?_ | refine WIx.rowsN (by omega) ?_ | refine WCall.pure (cV) ?_ | with_reducible refine WB.decT (by first | with_reducible rfl | assumption | omega | exact ⟨rfl, rfl⟩) ?_ | with_reducible refine WB.decF (by first | assumption | omega) ?_ | with_reducible refine WB.ndT (by first | with_reducible rfl | assumption | omega | exact ⟨rfl, rfl⟩) ?_ | with_reducible refine WB.ndF (by first | assumption | omega) ?_ | with_reducible refine WB.nt ?_ | with_reducible refine WB.nf ?_ | with_reducible refine WB.dec (fun h => ?_) (fun h => ?_) | with_reducible refine WB.ndec (fun h => ?_) (fun h => ?_) | refine WB.mk (fun h => ?_) (fun h => ?_)) <;> conv => whnf)
        refine WSt.app_first (r := [.i .i64 (vdO B aft (fst + 0))]) rfl (.inl rfl) rfl rfl rfl rfl ?_; conv => whnf
        repeat' first | ((first | with_reducible apply WB.tt | with_reducible apply WB.ff | refine Rn.seq ?_ | refine Rn.reg ?_ | refine Rn.drw ?_ | refine Rn.blk ?_ | refine Rn.skip ?_ | refine Rn.ret ?_ | refine Rn.exit ?_ | refine Rn.cond rfl ?_ | refine And.intro (InR.i64 (by omega) (by omega)) ?_ | refine And.intro (show _ ≠ (0 : Int) by omega) ?_ | refine WIx.intsN (by omega) ?_ | refine WIx.rowsN (by omega) ?_ | with_reducible refine WB.decT (by first | with_reducible rfl | assumption | omega | exact ⟨rfl, rfl⟩) ?_ | with_reducible refine WB.decF (by first | assumption | omega) ?_ | with_reducible refine WB.ndT (by first | with_reducible rfl | assumption | omega | exact ⟨rfl, rfl⟩) ?_ | with_reducible refine WB.ndF (by first | assumption | omega) ?_ | with_reducible refine WB.nt ?_ | with_reducible refine WB.nf ?_ | with_reducible refine WB.dec (fun h => ?_) (fun h => ?_) | with_reducible refine WB.ndec (fun h => ?_) (fun h => ?_) | refine WB.mk (fun h => ?_) (fun h => ?_)) <;> conv => whnf)
        have ht : (vdL B aft fst).take 1 = [vdO B aft (fst + 0)] := by
          rw [take_succ_getD (d := 0) (show 0 < (vdL B aft fst).length by rw [vdL_len]; omega), vdL_at (by omega)]; rfl
        refine Again.to (1, M') (show B.n.toNat - 1 < B.n.toNat - 0 by omega) ⟨show 1 ≤ B.n.toNat by omega, hM'⟩ (Nat.le_of_ble_eq_true rfl) ?_
        refine Shr.of ?_ ?_ rfl rfl
        · (repeat' first | exact Rel.e | refine Rel.some ?_ ?_ ?_ | refine Rel.none ?_ ?_ | refine Rel.ee ?_ ?_)
          all_goals show Fz _ _ _ _
          all_goals first | exact .kpt (show _ < _ by simp [Pos.nat]) | exact .ksl (show _ < _ by simp [Pos.nat]) | exact .pu trivial | (refine Fz.i ?_; omega)
        · (repeat' first | exact Rel.e | refine Rel.some ?_ ?_ ?_ | refine Rel.none ?_ ?_ | refine Rel.ee ?_ ?_)
          all_goals first
            | exact RO'.of (show Pos.nat _ < Pos.nat _ by simp [Pos.nat]) (ShC.kp mapL_kp)
            | exact RO'.of (show Pos.nat _ < Pos.nat _ by simp [Pos.nat]) (ShC.kp (wkCl_kp B (by simp [Pos.nat])))
            | (refine RO'.of (show Pos.nat _ < Pos.nat _ by simp [Pos.nat]) ?_
               show ShC _ _ _ (.cells false ((((vdL B aft fst).take 1).map fun n => D.i .i64 n).map fun d => Cell.o d 0) 1)
               rw [ht]
               exact ShC.same (ShC.cn (.pu trivial) ShC.nl))
    · have hM : MOk B M := hM
      have hj : j + 1 ≤ B.n.toNat := hj
      conv => whnf
      repeat' first | ((first | with_reducible apply WB.tt | with_reducible apply WB.ff | refine Rn.seq ?_ | refine Rn.reg ?_ | refine Rn.drw ?_ | refine Rn.blk ?_ | refine Rn.skip ?_ | refine Rn.ret ?_ | refine Rn.exit ?_ | refine Rn.cond rfl ?_ | refine And.intro (InR.i64 (by omega) (by omega)) ?_ | refine And.intro (show _ ≠ (0 : Int) by omega) ?_ | refine WIx.intsN (by omega) ?_ | refine WIx.rowsN (by omega) ?_) <;> conv => whnf)
      refine WB.dec (fun h => ?_) (fun h => ?_) <;> conv => whnf
      · have hlt : j + 1 < B.n.toNat := by omega
        obtain ⟨M', hM', Hb⟩ := j_bounds V (ask_isOut B (fst + (j + 1)) (by omega)) ha hne M hM
        have cV := j_verd (aft := aft) (x := fst + (j + 1)) hne
        rw [show ((fst + (j + 1) : Nat) : Int) = (fst : Int) + ((j + 1 : Nat) : Int) by omega] at Hb
        repeat' first | ((first | with_reducible apply WB.tt | with_reducible apply WB.ff | refine Rn.seq ?_ | refine Rn.reg ?_ | refine Rn.drw ?_ | refine Rn.blk ?_ | refine Rn.skip ?_ | refine Rn.ret ?_ | refine Rn.exit ?_ | refine Rn.cond rfl ?_ | refine And.intro (InR.i64 (by omega) (by omega)) ?_ | refine And.intro (show _ ≠ (0 : Int) by omega) ?_ | refine WIx.intsN (by omega) ?_ | refine WIx.rowsN (by omega) ?_ | with_reducible refine WB.decT (by first | with_reducible rfl | assumption | omega | exact ⟨rfl, rfl⟩) ?_ | with_reducible refine WB.decF (by first | assumption | omega) ?_ | with_reducible refine WB.ndT (by first | with_reducible rfl | assumption | omega | exact ⟨rfl, rfl⟩) ?_ | with_reducible refine WB.ndF (by first | assumption | omega) ?_ | with_reducible refine WB.nt ?_ | with_reducible refine WB.nf ?_ | with_reducible refine WB.dec (fun h => ?_) (fun h => ?_) | with_reducible refine WB.ndec (fun h => ?_) (fun h => ?_) | refine WB.mk (fun h => ?_) (fun h => ?_)) <;> conv => whnf)
        refine WCall.of (CallOk.mapAt Hb (lohi_pu _) (id := .h) rfl (show 1 < Pos.nat (.i (.o .h)) from by decide) (mp_at (by simp [PuL, Pu]))) ?_; conv => whnf
        repeat' first | ((first | with_reducible apply WB.tt | with_reducible apply WB.ff | refine Rn.seq ?_ | refine Rn.reg ?_ | refine Rn.drw ?_ | refine Rn.blk ?_ | refine Rn.skip ?_ | refine Rn.ret ?_ | refine Rn.exit ?_ | refine Rn.cond rfl ?_ | refine And.intro (InR.i64 (by omega) (by omega)) ?_ | refine And.intro (show _ ≠ (0 : Int) by omega) ?_ | refine WIx.intsN (by omega) ?_ | refine WIx.rowsN (by omega) ?_ | refine WCall.pure (cV) ?_ | with_reducible refine WB.decT (by first | with_reducible rfl | assumption | omega | exact ⟨rfl, rfl⟩) ?_ | with_reducible refine WB.decF (by first | assumption | omega) ?_ | with_reducible refine WB.ndT (by first | with_reducible rfl | assumption | omega | exact ⟨rfl, rfl⟩) ?_ | with_reducible refine WB.ndF (by first | assumption | omega) ?_ | with_reducible refine WB.nt ?_ | with_reducible refine WB.nf ?_ | with_reducible refine WB.dec (fun h => ?_) (fun h => ?_) | with_reducible refine WB.ndec (fun h => ?_) (fun h => ?_) | refine WB.mk (fun h => ?_) (fun h => ?_)) <;> conv => whnf)
        refine WSt.app_one (ds := ((vdL B aft fst).take (j + 1)).map fun n => D.i .i64 n) (r := [.i .i64 (vdO B aft (fst + (j + 1)))]) rfl rfl rfl rfl rfl rfl (by rw [List.length_map, List.length_take, vdL_len]; omega) rfl rfl (by omega) rfl ?_; conv => whnf
        repeat' first | ((first | with_reducible apply WB.tt | with_reducible apply WB.ff | refine Rn.seq ?_ | refine Rn.reg ?_ | refine Rn.drw ?_ | refine Rn.blk ?_ | refine Rn.skip ?_ | refine Rn.ret ?_ | refine Rn.exit ?_ | refine Rn.cond rfl ?_ | refine And.intro (InR.i64 (by omega) (by omega)) ?_ | refine And.intro (show _ ≠ (0 : Int) by omega) ?_ | refine WIx.intsN (by omega) ?_ | refine WIx.rowsN (by omega) ?_ | with_reducible refine WB.decT (by first | with_reducible rfl | assumption | omega | exact ⟨rfl, rfl⟩) ?_ | with_reducible refine WB.decF (by first | assumption | omega) ?_ | with_reducible refine WB.ndT (by first | with_reducible rfl | assumption | omega | exact ⟨rfl, rfl⟩) ?_ | with_reducible refine WB.ndF (by first | assumption | omega) ?_ | with_reducible refine WB.nt ?_ | with_reducible refine WB.nf ?_ | with_reducible refine WB.dec (fun h => ?_) (fun h => ?_) | with_reducible refine WB.ndec (fun h => ?_) (fun h => ?_) | refine WB.mk (fun h => ?_) (fun h => ?_)) <;> conv => whnf)
        have ht : (vdL B aft fst).take (j + 2) = (vdL B aft fst).take (j + 1) ++ [vdO B aft (fst + (j + 1))] := by
          rw [take_succ_getD (d := 0) (show j + 1 < (vdL B aft fst).length by rw [vdL_len]; omega), vdL_at (by omega)]
        refine Again.to (j + 2, M') (show B.n.toNat - (j + 2) < B.n.toNat - (j + 1) by omega) ⟨show j + 2 ≤ B.n.toNat by omega, hM'⟩ (Nat.le_of_ble_eq_true rfl) ?_
        refine Shr.of ?_ ?_ rfl rfl
        · (repeat' first | exact Rel.e | refine Rel.some ?_ ?_ ?_ | refine Rel.none ?_ ?_ | refine Rel.ee ?_ ?_)
          all_goals show Fz _ _ _ _
          all_goals first | exact .kpt (show _ < _ by simp [Pos.nat]) | exact .ksl (show _ < _ by simp [Pos.nat]) | exact .pu trivial | (refine Fz.i ?_; omega)
        · (repeat' first | exact Rel.e | refine Rel.some ?_ ?_ ?_ | refine Rel.none ?_ ?_ | refine Rel.ee ?_ ?_)
          all_goals first
            | exact RO'.of (show Pos.nat _ < Pos.nat _ by simp [Pos.nat]) (ShC.kp mapL_kp)
            | exact RO'.of (show Pos.nat _ < Pos.nat _ by simp [Pos.nat]) (ShC.kp (wkCl_kp B (by simp [Pos.nat])))
            | (refine RO'.of (show Pos.nat _ < Pos.nat _ by simp [Pos.nat]) ?_
               show ShC _ _ (.cells false (((((vdL B aft fst).take (j + 1)).map fun n => D.i .i64 n).map fun d => Cell.o d j) ++ [D.i .i64 (vdO B aft (fst + (j + 1)))].map fun d => Cell.o d (j + 1)) (j + 1 + 1)) (.cells false ((((vdL B aft fst).take (j + 2)).map fun n => D.i .i64 n).map fun d => Cell.o d (j + 1)) (j + 1 + 1))
               rw [ht, List.map_append]
               refine ShC.grown (by omega) (PuL_iff.2 fun d hd => ?_)
               rcases List.mem_append.1 hd with h | h
               · exact PuL_iff.1 (puL_map_j _) d h
               · rw [List.mem_singleton.1 h]; trivial)
      · repeat' first | ((first | with_reducible apply WB.tt | with_reducible apply WB.ff | refine Rn.seq ?_ | refine Rn.reg ?_ | refine Rn.drw ?_ | refine Rn.blk ?_ | refine Rn.skip ?_ | refine Rn.ret ?_ | refine Rn.exit ?_ | refine Rn.cond rfl ?_ | refine And.intro (InR.i64 (by omega) (by omega)) ?_ | refine And.intro (show _ ≠ (0 : Int) by omega) ?_ | refine WIx.intsN (by omega) ?_ | refine WIx.rowsN (by omega) ?_) <;> conv => whnf)
        refine ⟨_, _, ⟨M, hM, rfl, rfl⟩, ⟨.inr rfl, ⟨_, rfl, ?_⟩, Shr.kp ?_ (mapP_kp M)⟩⟩
        · exact Fz.whole (cs := (((vdL B aft fst).take (j + 1)).map fun n => D.i .i64 n).map fun d => Cell.o d j) (cur := j + 1) (show ¬ 4 < 2 by omega) rfl (by rw [ints_length, vdL_len]; omega) (ints_one' _) (by rw [ints_flatten, List.take_of_length_le (by rw [vdL_len]; omega)]) (pu_ints _)
        · show T.le (T.n .e (some (.map (mapL M))) .e : T Ev.C) _
          refine T.le_some (T.le_e _) rfl (T.le_e _))
  exact ⟨M', hM', Hb⟩
end Go.Ev

namespace Go.Ev
open Go.Proofs
set_option maxRecDepth 100000
def outT (n coin box : Int) (ls : List Ln) (cs : List Ct) (after : Int) : D :=
  if sE n coin box ls cs (inR after 0 ls.length) = 0 then .tp [.lst 1 (ints (vdL (B5 n coin box ls cs) after.toNat 0)), .lst 1 (ints (vdL (B5 n coin box ls cs) after.toNat 4)), .i .i64 0] else .tp [.lst 1 [], .lst 1 [], .i .i64 (sE n coin box ls cs (inR after 0 ls.length))]
theorem j_OutP (n coin box : Int) (ls : List Ln) (cs : List Ct) (after : Int) : PureF Try.prog p34.ix [.ag [.i .i64 n, .i .i64 coin, .i .i64 box, .lst 3 (rows lnD ls), .lst 3 (rows ctD cs)], .i .i64 after] (outT n coin box ls cs after) := by
  have e1 := rows_length lnD ls
  have cU : PureF Try.prog p86.ix [.i .i64 after, .i .i64 ((rows lnD ls).length : Int)] (.b (inR after 0 ls.length)) := by
    have := j_upTo after ((rows lnD ls).length : Int)
    rw [e1] at this ⊢
    exact this
  unfold outT
  by_cases hE : sE n coin box ls cs (inR after 0 ls.length) = 0
  · rw [if_pos hE]
    obtain ⟨hf, ht⟩ := sE_fault hE
    have hE' := hE
    rw [ht] at hE' cU
    obtain ⟨M, hM, Hs⟩ := j_startO n coin box ls cs hE'
    have ha := inR_iff.1 ht
    have V := VB.of hf
    obtain ⟨M', hM', Hb⟩ := j_verdicts V (aft := after.toNat) (fst := 0) (show after.toNat ≤ ls.length by omega) (by omega) (ex_ne hE) M hM
    obtain ⟨M'', hM'', Hc⟩ := j_verdicts V (aft := after.toNat) (fst := 4) (show after.toNat ≤ ls.length by omega) (by omega) (ex_ne hE) M' hM'
    rw [show ((after.toNat : Nat) : Int) = after by omega] at Hb Hc
    refine PureF.run fn33 (by simp) (by simp [PuL, PuE, Pu, pu_ints, pu_ln, pu_ct]) ?_; conv => whnf
    repeat' first | ((first | with_reducible apply WB.tt | with_reducible apply WB.ff | refine Rn.seq ?_ | refine Rn.reg ?_ | refine Rn.drw ?_ | refine Rn.blk ?_ | refine Rn.skip ?_ | refine Rn.ret ?_ | refine Rn.exit ?_ | refine Rn.cond rfl ?_ | refine And.intro (InR.i64 (by omega) (by omega)) ?_ | refine And.intro (show _ ≠ (0 : Int) by omega) ?_ | refine WIx.intsN (by omega) ?_ | refine WIx.rowsN (by omega) ?_ | refine WCall.pure (cU) ?_ | with_reducible refine WB.decT (by first | with_reducible rfl | assumption | omega | exact ⟨rfl, rfl⟩) ?_ | with_reducible refine WB.decF (by first | assumption | omega) ?_ | with_reducible refine WB.ndT (by first | with_reducible rfl | assumption | omega | exact ⟨rfl, rfl⟩) ?_ | with_reducible refine WB.ndF (by first | assumption | omega) ?_ | with_reducible refine WB.nt ?_ | with_reducible refine WB.nf ?_ | with_reducible refine WB.dec (fun h => ?_) (fun h => ?_) | with_reducible refine WB.ndec (fun h => ?_) (fun h => ?_) | refine WB.mk (fun h => ?_) (fun h => ?_)) <;> conv => whnf)
    refine WCall.of (start_at Hs) ?_; conv => whnf
    repeat' first | ((first | with_reducible apply WB.tt | with_reducible apply WB.ff | refine Rn.seq ?_ | refine Rn.reg ?_ | refine Rn.drw ?_ | refine Rn.blk ?_ | refine Rn.skip ?_ | refine Rn.ret ?_ | refine Rn.exit ?_ | refine Rn.cond rfl ?_ | refine And.intro (InR.i64 (by omega) (by omega)) ?_ | refine And.intro (show _ ≠ (0 : Int) by omega) ?_ | refine WIx.intsN (by omega) ?_ | refine WIx.rowsN (by omega) ?_ | with_reducible refine WB.decT (by first | with_reducible rfl | assumption | omega | exact ⟨rfl, rfl⟩) ?_ | with_reducible refine WB.decF (by first | assumption | omega) ?_ | with_reducible refine WB.ndT (by first | with_reducible rfl | assumption | omega | exact ⟨rfl, rfl⟩) ?_ | with_reducible refine WB.ndF (by first | assumption | omega) ?_ | with_reducible refine WB.nt ?_ | with_reducible refine WB.nf ?_ | with_reducible refine WB.dec (fun h => ?_) (fun h => ?_) | with_reducible refine WB.ndec (fun h => ?_) (fun h => ?_) | refine WB.mk (fun h => ?_) (fun h => ?_)) <;> conv => whnf)
    refine WCall.of (CallOk.mapAt Hb (pu_ints _) (id := .o .h) rfl (show 2 < 4 from by decide) (mp_at (show PuL [.i .i64 after, .i .i64 ((0 : Nat) : Int)] from ⟨trivial, trivial, trivial⟩))) ?_; conv => whnf
    repeat' first | ((first | with_reducible apply WB.tt | with_reducible apply WB.ff | refine Rn.seq ?_ | refine Rn.reg ?_ | refine Rn.drw ?_ | refine Rn.blk ?_ | refine Rn.skip ?_ | refine Rn.ret ?_ | refine Rn.exit ?_ | refine Rn.cond rfl ?_ | refine And.intro (InR.i64 (by omega) (by omega)) ?_ | refine And.intro (show _ ≠ (0 : Int) by omega) ?_ | refine WIx.intsN (by omega) ?_ | refine WIx.rowsN (by omega) ?_ | with_reducible refine WB.decT (by first | with_reducible rfl | assumption | omega | exact ⟨rfl, rfl⟩) ?_ | with_reducible refine WB.decF (by first | assumption | omega) ?_ | with_reducible refine WB.ndT (by first | with_reducible rfl | assumption | omega | exact ⟨rfl, rfl⟩) ?_ | with_reducible refine WB.ndF (by first | assumption | omega) ?_ | with_reducible refine WB.nt ?_ | with_reducible refine WB.nf ?_ | with_reducible refine WB.dec (fun h => ?_) (fun h => ?_) | with_reducible refine WB.ndec (fun h => ?_) (fun h => ?_) | refine WB.mk (fun h => ?_) (fun h => ?_)) <;> conv => whnf)
    refine WCall.of (CallOk.mapAt Hc (pu_ints _) (id := .o .h) rfl (show 2 < 4 from by decide) (mp_at (show PuL [.i .i64 after, .i .i64 ((4 : Nat) : Int)] from ⟨trivial, trivial, trivial⟩))) ?_; conv => whnf
    repeat' first | ((first | with_reducible apply WB.tt | with_reducible apply WB.ff | refine Rn.seq ?_ | refine Rn.reg ?_ | refine Rn.drw ?_ | refine Rn.blk ?_ | refine Rn.skip ?_ | refine Rn.ret ?_ | refine Rn.exit ?_ | refine Rn.cond rfl ?_ | refine And.intro (InR.i64 (by omega) (by omega)) ?_ | refine And.intro (show _ ≠ (0 : Int) by omega) ?_ | refine WIx.intsN (by omega) ?_ | refine WIx.rowsN (by omega) ?_ | with_reducible refine WB.decT (by first | with_reducible rfl | assumption | omega | exact ⟨rfl, rfl⟩) ?_ | with_reducible refine WB.decF (by first | assumption | omega) ?_ | with_reducible refine WB.ndT (by first | with_reducible rfl | assumption | omega | exact ⟨rfl, rfl⟩) ?_ | with_reducible refine WB.ndF (by first | assumption | omega) ?_ | with_reducible refine WB.nt ?_ | with_reducible refine WB.nf ?_ | with_reducible refine WB.dec (fun h => ?_) (fun h => ?_) | with_reducible refine WB.ndec (fun h => ?_) (fun h => ?_) | refine WB.mk (fun h => ?_) (fun h => ?_)) <;> conv => whnf)
    exact ⟨.inr rfl, _, rfl, .tp (.cons (.pu (pu_ints _)) (.cons (.pu (pu_ints _)) (.cons (.pu trivial) .nil)))⟩
  · rw [if_neg hE]
    have cS := j_startE n coin box ls cs _ hE
    generalize sE n coin box ls cs (inR after 0 ls.length) = e at hE cS ⊢
    unfold wkQ B5 zwk at cS
    refine PureF.run fn33 (by simp) (by simp [PuL, PuE, Pu, pu_ints, pu_ln, pu_ct]) ?_; conv => whnf
    repeat' first | ((first | with_reducible apply WB.tt | with_reducible apply WB.ff | refine Rn.seq ?_ | refine Rn.reg ?_ | refine Rn.drw ?_ | refine Rn.blk ?_ | refine Rn.skip ?_ | refine Rn.ret ?_ | refine Rn.exit ?_ | refine Rn.cond rfl ?_ | refine And.intro (InR.i64 (by omega) (by omega)) ?_ | refine And.intro (show _ ≠ (0 : Int) by omega) ?_ | refine WIx.intsN (by omega) ?_ | refine WIx.rowsN (by omega) ?_ | refine WCall.pure (cU) ?_ | refine WCall.pure (cS) ?_ | with_reducible refine WB.decT (by first | with_reducible rfl | assumption | omega | exact ⟨rfl, rfl⟩) ?_ | with_reducible refine WB.decF (by first | assumption | omega) ?_ | with_reducible refine WB.ndT (by first | with_reducible rfl | assumption | omega | exact ⟨rfl, rfl⟩) ?_ | with_reducible refine WB.ndF (by first | assumption | omega) ?_ | with_reducible refine WB.nt ?_ | with_reducible refine WB.nf ?_ | with_reducible refine WB.dec (fun h => ?_) (fun h => ?_) | with_reducible refine WB.ndec (fun h => ?_) (fun h => ?_) | refine WB.mk (fun h => ?_) (fun h => ?_)) <;> conv => whnf)
    all_goals first
      | (exfalso; omega)
      | exact ⟨.inr rfl, _, rfl, .tp (.cons .ns (.cons .ns (.cons (.pu trivial) .nil)))⟩
end Go.Ev

namespace Go.Ev
open Go.Proofs
set_option maxRecDepth 100000
def cP (m : Nat) (c : Int) (t : List Ln) : Bool := decide (0 ≤ cOut t c m)
theorem sE_false {n coin box : Int} {ls : List Ln} {cs : List Ct} (h : faultT n coin box ls cs = 0) (hb : hasB (B5 n coin box ls cs) = false) : sE n coin box ls cs true = 11 := by unfold sE; rw [if_neg (fun k => k h), hb]; rfl
theorem sE_true {n coin box : Int} {ls : List Ln} {cs : List Ct} (h : faultT n coin box ls cs = 0) (hb : hasB (B5 n coin box ls cs) = true) : sE n coin box ls cs true = 0 := by unfold sE; rw [if_neg (fun k => k h), hb]; rfl
end Go.Ev

namespace Go.Ev
open Go.Proofs
set_option maxRecDepth 1000000
def p126 : Pos := .o p63
def p127 : Pos := .i p63
def p128 : Pos := .o p64
def p129 : Pos := .i p64
def p130 : Pos := .o p65
def p131 : Pos := .i p65
def p132 : Pos := .o p66
def p133 : Pos := .i p66
def p134 : Pos := .o p67
def p146 : Pos := .o p73
def p147 : Pos := .i p73
def p148 : Pos := .o p74
def p149 : Pos := .i p74
def p150 : Pos := .o p75
def p151 : Pos := .i p75
def p152 : Pos := .o p76
def p153 : Pos := .i p76
def p154 : Pos := .o p77
def p155 : Pos := .i p77
def p162 : Pos := .o p81
def p163 : Pos := .i p81
def p164 : Pos := .o p82
def p166 : Pos := .o p83
def p167 : Pos := .i p83
def p168 : Pos := .o p84
def p169 : Pos := .i p84
def p170 : Pos := .o p85
def p171 : Pos := .i p85
def p172 : Pos := .o p86
def p173 : Pos := .i p86
def p174 : Pos := .o p87
def p175 : Pos := .i p87
def p176 : Pos := .o p88
def p177 : Pos := .i p88
def p178 : Pos := .o p89
def p179 : Pos := .i p89
def p180 : Pos := .o p90
def p181 : Pos := .i p90
def p182 : Pos := .o p91
def p183 : Pos := .i p91
def p184 : Pos := .o p92
def p185 : Pos := .i p92
def p186 : Pos := .o p93
def p187 : Pos := .i p93
def p188 : Pos := .o p94
def p189 : Pos := .i p94
def p190 : Pos := .o p95
noncomputable def rc54 : RC := (.seq (.reg [(.u (.box p2 (.t p1))), (.u (.mv p3 (.k (.b false))))]) (.seq (.reg [(.u (.ldn p4 (.t p2) 5)), (.u (.cf (some p5) p21 [(.t p4)])), (.u (.mv p6 (.t p5))), (.g p6 true (some p7) (.ldn p7 (.t p2) 5)), (.g p6 true (some p8) (.cf (some p8) p70 [(.t p7)])), (.g p6 true (some p9) (.bin p9 .eql (.t p8) (.k (.i .i64 0)))), (.u (.pick p10 (.t p6) (.t p9) (.k (.b false)))), (.u (.mv p3 (.t p10)))]) .ret))
def rs54 : List RR := [(.t p3)]
theorem fn54 : FnOk Try.prog p55.ix 10 rc54 rs54 := ⟨Try.f54, bodyC Try.f54, Try.func54, by kernel_rfl, by kernel_rfl, by kernel_rfl, by kernel_rfl, by kernel_rfl⟩
end Go.Ev

namespace Go.Ev
set_option maxRecDepth 100000
end Go.Ev

namespace Go.Ev
open Go.Proofs
theorem fit_lines : ∀ {es : List (List D)}, (∀ x ∈ es, FitL [.i .i64, .i .i64, .i .i64] x) → ∃ l : List Ln, es = rows lnD l ∧ ∀ r ∈ l, lnWf r
  | [], _ => ⟨[], rfl, fun r h => by cases h⟩
  | x :: es, h => by
    obtain ⟨l, rfl, hl⟩ := fit_lines (es := es) fun y hy => h y (by simp [hy])
    have h1 := h x (by simp)
    simp only [FitL, FitC] at h1
    obtain ⟨d, ds, rfl, ⟨n1, rfl, w1⟩, d2, ds2, rfl, ⟨n2, rfl, w2⟩, d3, ds3, rfl, ⟨n3, rfl, w3⟩, rfl⟩ := h1
    refine ⟨⟨n1, n2, n3⟩ :: l, rfl, fun r hr => ?_⟩
    rcases List.mem_cons.1 hr with rfl | hr
    · exact ⟨wfB_of w1, wfB_of w2, wfB_of w3⟩
    · exact hl r hr
theorem fit_counts : ∀ {es : List (List D)}, (∀ x ∈ es, FitL [.i .i64, .i .i64, .i .i64] x) → ∃ l : List Ct, es = rows ctD l
  | [], _ => ⟨[], rfl⟩
  | x :: es, h => by
    obtain ⟨l, rfl⟩ := fit_counts (es := es) fun y hy => h y (by simp [hy])
    have h1 := h x (by simp)
    simp only [FitL, FitC] at h1
    obtain ⟨d, ds, rfl, ⟨n1, rfl, w1⟩, d2, ds2, rfl, ⟨n2, rfl, w2⟩, d3, ds3, rfl, ⟨n3, rfl, w3⟩, rfl⟩ := h1
    exact ⟨⟨n1, n2, n3⟩ :: l, rfl⟩
theorem FitP.book {ps : List (Bool × List CK)} {ds : List D} (h : FitP ((true, [.i .i64, .i .i64, .i .i64, .sl [.i .i64, .i .i64, .i .i64], .sl [.i .i64, .i .i64, .i .i64]]) :: ps) ds) : ∃ n coin box ls cs ds', ds = .ag [.i .i64 n, .i .i64 coin, .i .i64 box, .lst 3 (rows lnD ls), .lst 3 (rows ctD cs)] :: ds' ∧ FitP ps ds' := by
  unfold FitP at h
  obtain ⟨es, ds', rfl, h1, h2⟩ := h
  simp only [FitL, FitC] at h1
  obtain ⟨d, ds, rfl, ⟨n1, rfl, _⟩, d2, ds2, rfl, ⟨n2, rfl, _⟩, d3, ds3, rfl, ⟨n3, rfl, _⟩, d4, ds4, rfl, ⟨e4, rfl, k4⟩, d5, ds5, rfl, ⟨e5, rfl, k5⟩, rfl⟩ := h1
  obtain ⟨ls, rfl, _⟩ := fit_lines fun x hx => by have := k4 x hx; simpa only [FitL, FitC] using this
  obtain ⟨cs, rfl⟩ := fit_counts fun x hx => by have := k5 x hx; simpa only [FitL, FitC] using this
  exact ⟨n1, n2, n3, ls, cs, ds', rfl, h2⟩
theorem FitP.lines {ps : List (Bool × List CK)} {ds : List D} (h : FitP ((false, [.sl [.i .i64, .i .i64, .i .i64]]) :: ps) ds) : ∃ (t : List Ln) (ds' : List D), ds = .lst 3 (rows lnD t) :: ds' ∧ (∀ r ∈ t, lnWf r) ∧ FitP ps ds' := by
  unfold FitP at h
  obtain ⟨d, ds', rfl, h1, h2⟩ := h
  simp only [FitL, FitC] at h1
  obtain ⟨d, ds, e, ⟨es, rfl, h1⟩, rfl⟩ := h1
  cases e
  obtain ⟨l, rfl, hl⟩ := fit_lines fun x hx => by have := h1 x hx; simpa only [FitL, FitC] using this
  exact ⟨l, ds', rfl, hl, h2⟩
end Go.Ev

namespace Go.Ev
open Go.Proofs
set_option maxRecDepth 100000
def readyB (n coin box : Int) (ls : List Ln) (cs : List Ct) : Bool := thinT n coin box ls cs && decide (faultT n coin box ls cs = 0)
theorem j_ready (n coin box : Int) (ls : List Ln) (cs : List Ct) : PureF Try.prog p55.ix [.ag (bk5 n coin box ls cs)] (.b (readyB n coin box ls cs)) := by
  have iT := j_Thin n coin box ls cs
  have iF := j_Fault n coin box ls cs
  unfold readyB
  refine PureF.run fn54 (by simp) (by simp [PuL, Pu, bk5, pu_ln, pu_ct]) ?_; conv => whnf
  cases hT : thinT n coin box ls cs with
  | false =>
    rw [hT] at iT
    repeat' first | ((first | with_reducible apply WB.tt | with_reducible apply WB.ff | refine Rn.seq ?_ | refine Rn.reg ?_ | refine Rn.drw ?_ | refine Rn.blk ?_ | refine Rn.skip ?_ | refine Rn.ret ?_ | refine Rn.exit ?_ | refine Rn.cond rfl ?_ | refine And.intro (InR.i64 (by omega) (by omega)) ?_ | refine And.intro (show _ ≠ (0 : Int) by omega) ?_ | refine WIx.intsN (by omega) ?_ | refine WIx.rowsN (by omega) ?_ | refine WCall.pure (iT) ?_) <;> conv => whnf)
    exact Fin.b rfl rfl
  | true =>
    rw [hT] at iT
    repeat' first | ((first | with_reducible apply WB.tt | with_reducible apply WB.ff | refine Rn.seq ?_ | refine Rn.reg ?_ | refine Rn.drw ?_ | refine Rn.blk ?_ | refine Rn.skip ?_ | refine Rn.ret ?_ | refine Rn.exit ?_ | refine Rn.cond rfl ?_ | refine And.intro (InR.i64 (by omega) (by omega)) ?_ | refine And.intro (show _ ≠ (0 : Int) by omega) ?_ | refine WIx.intsN (by omega) ?_ | refine WIx.rowsN (by omega) ?_ | refine WCall.pure (iT) ?_ | refine WCall.pure (iF) ?_) <;> conv => whnf)
    exact Fin.b rfl rfl
theorem ready_of {n coin box : Int} {ls : List Ln} {cs : List Ct} (h : readyB n coin box ls cs = true) : ls.length ≤ 8 ∧ cs.length ≤ 4 ∧ faultT n coin box ls cs = 0 := by
  unfold readyB at h
  rw [Bool.and_eq_true, decide_eq_true_iff] at h
  obtain ⟨f1, f2, _, _⟩ := fault_okT h.2
  exact ⟨f1, f2, h.2⟩
theorem fold_mem {A : List Int} (hne : A ≠ []) : A.foldl min (A.getD 0 0) ∈ A ∧ A.foldl max (A.getD 0 0) ∈ A := by
  have hA := getD0_mem hne
  obtain ⟨a1, a2, a3⟩ := foldl_minJ A (A.getD 0 0)
  obtain ⟨c1, c2, c3⟩ := foldl_maxJ A (A.getD 0 0)
  constructor
  · rcases a3 with h | h
    · rw [h]; exact hA
    · exact h
  · rcases c3 with h | h
    · rw [h]; exact hA
    · exact h
end Go.Ev

namespace Go.Ev
open Go.Proofs
set_option maxRecDepth 1000000
end Go.Ev

namespace Go.Ev
open Go.Proofs
set_option maxRecDepth 100000
theorem readB_iff {n : Int} {ls T : List Ln} : readB n ls T = true ↔ T.length = ls.length ∧ ∀ i, i < T.length → rd1 n (ls.getD i default) (T.getD i default) = true := by
  unfold readB
  rw [Bool.and_eq_true, decide_eq_true_iff, List.all_eq_true]
  constructor
  · rintro ⟨h1, h2⟩; exact ⟨h1, fun i hi => h2 i (List.mem_range.2 hi)⟩
  · rintro ⟨h1, h2⟩; exact ⟨h1, fun i hi => h2 i (List.mem_range.1 hi)⟩
end Go.Ev
