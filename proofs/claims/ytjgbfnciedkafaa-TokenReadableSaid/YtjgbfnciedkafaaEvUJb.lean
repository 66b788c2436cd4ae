import Derived.Test.YtjgbfnciedkafaaEvUJr
import Derived.Test.YtjgbfnciedkafaaEvUFg
set_option linter.all false
namespace Go.Ev
open Go.Proofs
set_option maxRecDepth 100000
theorem WCall.borrow1 {P : Program} {f : Nat} {ds ds' : List D} {v : D} (h : PureF P f ds' v) (id : Pos) (c : C) {sl : T D} {ob : T C} {nx : Pos} {lg lg2 : Option (T Bool)} {d : Option Pos} {K : X → Prop} (hz : FzL (fun _ => False) (T.set id c .e) ds ds') (hv : Flat v) (hid : ob.get id = some c) (hlg2 : lgW lg id = lg2) (k : wDst sl ob nx lg2 d K v) : WCall P f ds d ⟨sl, ob, nx, lg⟩ K := by
  subst hlg2
  have hone : (T.set id c .e).get id = some c := T.get_set_same _ _ _
  have C := PureF.borrowL h (ob := ob) (ob1 := T.set id c .e) (ds := ds) hz (fun j c' hc => by
    by_cases e : j = id
    · subst e; rw [hone] at hc; rw [← hc]; exact hid
    · rw [T.get_set_ne e _ _, T.get_e] at hc; cases hc) hv nx (lgW_le lg id) (fun j c' hc => by
    by_cases e : j = id
    · subst e; exact (lgW_w lg j).tchd
    · rw [T.get_set_ne e _ _, T.get_e] at hc; cases hc)
  cases d with
  | none => exact ⟨_, _, _, _, _, C, rfl, k⟩
  | some d =>
    obtain ⟨h1, h2⟩ := wOut_ok k
    exact ⟨_, _, _, _, _, C, h1, h2⟩
def mo0 : Mo := ⟨0, fun _ => 0, 0, 0, ⟨0, 0, 0⟩⟩
def mo126 (F : Nat → Mo) : List D := moD (F 0) ++ (moD (F 1) ++ (moD (F 2) ++ (moD (F 3) ++ (moD (F 4) ++ (moD (F 5) ++ (moD (F 6) ++ (moD (F 7) ++ moD (F 8))))))))
theorem pu_mo126 (F : Nat → Mo) : PuL (mo126 F) := by simp [mo126, moD, PuL, Pu]
def moF (box coin : Int) (T : List Ln) (j q : Nat) : Mo := bif Nat.ble q j then moR box coin T q else mo0
noncomputable def moC (F : Nat → Mo) : C := .cells false ((mo126 F).map fun d => Cell.o d 0) 1
noncomputable def m1C (m : Mo) : C := .cells false ((moD m).map fun d => Cell.o d 0) 1
noncomputable def wkC (n coin box : Int) (ls : List Ln) (cs : List Ct) : C := .cells false ((wk6 n coin box ls cs).map fun d => Cell.o d 0) 1
theorem puC {l : List D} {n m st : Nat} (h : KpL n l) : KpC n (.cells false (l.map fun d => Cell.o d st) m) := by
  refine KpL.all ?_
  rw [List.map_map]
  rw [show (Cell.d ∘ fun d => Cell.o d st) = id from rfl, List.map_id]
  exact h
theorem kp_mo126 (F : Nat → Mo) (n : Nat) : KpL n (mo126 F) := by simp [mo126, moD, KpL, Kp, Pu]
def followB (n : Int) (ls T : List Ln) : Bool := decide (T.length = ls.length) && (List.range T.length).all fun q => rdB n (ls.getD q default) (T.getD q default) && pos1 T q
def folF (box coin n : Int) (ls T : List Ln) : Nat → Mo := bif followB n ls T then moF box coin T T.length else fun _ => mo0
noncomputable def fwS (Tr : List Ln) (j : Nat) : T D := (.n (.n (.n (.n .e (some (.pt (.o (.o .h)) 0 0)) .e) none (.n .e none (.n .e (some (.i .i64 (j : Int))) .e))) none (.n (.n .e none (.n .e (some (.lst 3 (rows lnD Tr))) .e)) (some (.b false)) .e)) none (.n (.n .e (some (.pt (.o .h) 0 0)) .e) (some (.pt .h 0 0)) (.n (.n .e none (.n .e (some (.i .i64 ((rows lnD Tr).length : Int))) .e)) (some (.pt (.i .h) 0 0)) .e)))
noncomputable def fwO (n coin box : Int) (ls : List Ln) (cs : List Ct) (Tr : List Ln) (j : Nat) : T C := (.n (.n (.n .e (some (m1C (moR box coin Tr j))) .e) (some (moC (fun _ => mo0))) .e) (some (wkC n coin box ls cs)) (.n .e (some (moC (moF box coin Tr j))) .e))
def five5 : Pos := .i (.o .h)
theorem fwS_kp (Tr : List Ln) (j : Nat) : ∀ s d, (fwS Tr j).get s = some d → Kp five5.nat d := by
  show TAll (fun _ d => Kp five5.nat d) (fwS Tr j)
  unfold fwS
  repeat' first | exact TAll.e | refine TAll.some ?_ ?_ ?_ | refine TAll.none ?_ ?_
  all_goals simp [Kp, KpL, Pu, pu_ln, five5, Pos.nat]
theorem fwO_kp (n coin box : Int) (ls : List Ln) (cs : List Ct) (Tr : List Ln) (j : Nat) : KpO five5.nat (fwO n coin box ls cs Tr j) := by
  show TAll (fun id c => id.nat < five5.nat ∧ KpC five5.nat c) (fwO n coin box ls cs Tr j)
  unfold fwO
  repeat' first | exact TAll.e | refine TAll.some ?_ ?_ ?_ | refine TAll.none ?_ ?_
  all_goals refine ⟨by simp [Pos.nat, five5], ?_⟩
  all_goals first
    | exact puC (kp_mo126 _ _)
    | exact puC (show KpL _ (moD _) by simp [moD, KpL, Kp, Pu])
    | exact puC (show KpL _ (wk6 _ _ _ _ _) by simp [wk6, KpL, Kp, Pu, pu_ln, pu_ct])
theorem eight {m : Nat} (h : m < 8) : m = 0 ∨ m = 1 ∨ m = 2 ∨ m = 3 ∨ m = 4 ∨ m = 5 ∨ m = 6 ∨ m = 7 := by omega
theorem rdB_bd {n : Int} {l r : Ln} (hn : 1 ≤ n ∧ n ≤ 4) (hk : 0 ≤ l.k ∧ l.k ≤ 2) (hc : -1 ≤ l.c ∧ l.c ≤ 3) (ht : -1 ≤ l.t ∧ l.t ≤ 3) (h : rdB n l r = true) : (r.k = 1 ∨ r.k = 2) ∧ (0 ≤ r.c ∧ r.c ≤ 3) ∧ (0 ≤ r.t ∧ r.t ≤ 3) := by
  obtain ⟨h1, h2, h3, h4, h5, h6⟩ := of_decide_eq_true h
  unfold kLo at h1
  unfold kHi at h2
  unfold cLo at h3
  unfold cHi at h4
  unfold tLo at h5
  unfold tHi at h6
  refine ⟨?_, ?_, ?_⟩
  · split at h1 <;> split at h2 <;> omega
  · split at h3 <;> split at h4 <;> omega
  · split at h5 <;> split at h6 <;> omega
theorem fold_no {box coin n : Int} {ls Tr : List Ln} (h : followB n ls Tr = false) : folF box coin n ls Tr = fun _ => mo0 := by unfold folF; rw [h]; rfl
set_option maxHeartbeats 2000000 in
theorem j_follow (n coin box : Int) (ls : List Ln) (cs : List Ct) (hn : 1 ≤ n ∧ n ≤ 4) (hcn : 1 ≤ coin ∧ coin ≤ 99) (hbx : 0 ≤ box ∧ box ≤ 999) (hlen : ls.length ≤ 8) (hls : ls.all (lnOk n) = true) (Tr : List Ln) (hT : Tr.length ≤ 65536) (hw : ∀ r ∈ Tr, lnWf r) :
    PureF Try.prog p76.ix [.ag [.i .i64 n, .i .i64 coin, .i .i64 box, .lst 3 (rows lnD ls), .lst 3 (rows ctD cs), .any], .lst 3 (rows lnD Tr)] (.tp [.ag (mo126 (folF box coin n ls Tr)), .b (followB n ls Tr)]) := by
  have e1 := rows_length lnD ls
  have e2 := rows_length lnD Tr
  refine PureF.run fn75 (by simp) (by simp [PuL, PuE, Pu, pu_ints, pu_ln, pu_ct]) ?_; conv => whnf
  by_cases hl : Tr.length = ls.length
  · have hlen' : Tr.length ≤ 8 := by omega
    repeat' first | ((first | with_reducible apply WB.tt | with_reducible apply WB.ff | refine Rn.seq ?_ | refine Rn.reg ?_ | refine Rn.drw ?_ | refine Rn.blk ?_ | refine Rn.skip ?_ | refine Rn.ret ?_ | refine Rn.exit ?_ | refine Rn.cond rfl ?_ | refine And.intro (InR.i64 (by omega) (by omega)) ?_ | refine And.intro (show _ ≠ (0 : Int) by omega) ?_ | refine WIx.intsN (by omega) ?_ | refine WIx.rowsN (by omega) ?_ | refine WCall.pure (j_opening n coin box ls cs Tr) ?_ | with_reducible refine WB.decT (by first | with_reducible rfl | assumption | omega | exact ⟨rfl, rfl⟩) ?_ | with_reducible refine WB.decF (by first | assumption | omega) ?_ | with_reducible refine WB.ndT (by first | with_reducible rfl | assumption | omega | exact ⟨rfl, rfl⟩) ?_ | with_reducible refine WB.ndF (by first | assumption | omega) ?_ | with_reducible refine WB.nt ?_ | with_reducible refine WB.nf ?_ | with_reducible refine WB.dec (fun h => ?_) (fun h => ?_) | with_reducible refine WB.ndec (fun h => ?_) (fun h => ?_) | refine WB.mk (fun h => ?_) (fun h => ?_)) <;> conv => whnf)
    refine WSt.ixaN (m := 0) rfl rfl rfl (by omega) ?_; conv => whnf
    repeat' first | ((first | with_reducible apply WB.tt | with_reducible apply WB.ff | refine Rn.seq ?_ | refine Rn.reg ?_ | refine Rn.drw ?_ | refine Rn.blk ?_ | refine Rn.skip ?_ | refine Rn.ret ?_ | refine Rn.exit ?_ | refine Rn.cond rfl ?_ | refine And.intro (InR.i64 (by omega) (by omega)) ?_ | refine And.intro (show _ ≠ (0 : Int) by omega) ?_ | refine WIx.intsN (by omega) ?_ | refine WIx.rowsN (by omega) ?_ | refine WCall.pure (j_opening n coin box ls cs Tr) ?_ | with_reducible refine WB.decT (by first | with_reducible rfl | assumption | omega | exact ⟨rfl, rfl⟩) ?_ | with_reducible refine WB.decF (by first | assumption | omega) ?_ | with_reducible refine WB.ndT (by first | with_reducible rfl | assumption | omega | exact ⟨rfl, rfl⟩) ?_ | with_reducible refine WB.ndF (by first | assumption | omega) ?_ | with_reducible refine WB.nt ?_ | with_reducible refine WB.nf ?_ | with_reducible refine WB.dec (fun h => ?_) (fun h => ?_) | with_reducible refine WB.ndec (fun h => ?_) (fun h => ?_) | refine WB.mk (fun h => ?_) (fun h => ?_)) <;> conv => whnf)
    refine Rn.loop (fun j : Nat => ⟨fwS Tr j, fwO n coin box ls cs Tr j, five5, none⟩) (fun j => j ≤ Tr.length ∧ ∀ q, q < j → (rdB n (ls.getD q default) (Tr.getD q default) && pos1 Tr q) = true) (fun j => Tr.length - j) 0 ?_ ?_ ?_
    · refine X.le.mk ?_ ?_ (Nat.le_refl _) rfl rfl <;> (first | unfold fwS | unfold fwO) <;> (repeat' first | exact T.le_e _ | refine T.le_some ?_ rfl ?_ | refine T.le_none ?_ ?_)
    · exact ⟨Nat.zero_le _, fun q h => absurd h (Nat.not_lt_zero _)⟩
    rintro j ⟨hj, hq⟩
    have hj : j ≤ Tr.length := hj
    conv => whnf
    repeat' first | ((first | with_reducible apply WB.tt | with_reducible apply WB.ff | refine Rn.seq ?_ | refine Rn.reg ?_ | refine Rn.drw ?_ | refine Rn.blk ?_ | refine Rn.skip ?_ | refine Rn.ret ?_ | refine Rn.exit ?_ | refine Rn.cond rfl ?_ | refine And.intro (InR.i64 (by omega) (by omega)) ?_ | refine And.intro (show _ ≠ (0 : Int) by omega) ?_ | refine WIx.intsN (by omega) ?_ | refine WIx.rowsN (by omega) ?_) <;> conv => whnf)
    refine WB.dec (fun h => ?_) (fun h => ?_) <;> conv => whnf
    · have hlt : j < Tr.length := by omega
      have hlt' : j < ls.length := by omega
      have hok := List.all_eq_true.1 hls _ (getD_mem (d := default) hlt')
      unfold lnOk at hok
      simp only [Bool.and_eq_true, inR_iff] at hok
      obtain ⟨hk, hc, ht⟩ := hok
      have hc : -1 ≤ (ls.getD j default).c ∧ (ls.getD j default).c ≤ 3 := by omega
      have ht : -1 ≤ (ls.getD j default).t ∧ (ls.getD j default).t ≤ 3 := by omega
      have cS := j_some n coin box ls cs hn (ls.getD j default) hk hc ht (Tr.getD j default) (hw _ (getD_mem hlt))
      have hno : (rdB n (ls.getD j default) (Tr.getD j default) && pos1 Tr j) = false → followB n ls Tr = false := fun h => by
        refine Bool.eq_false_iff.2 fun hf => ?_
        unfold followB at hf
        rw [Bool.and_eq_true] at hf
        have := List.all_eq_true.1 hf.2 j (List.mem_range.2 hlt)
        rw [h] at this; cases this
      cases hR : rdB n (ls.getD j default) (Tr.getD j default) with
      | false =>
        rw [hR] at cS hno
        repeat' first | ((first | with_reducible apply WB.tt | with_reducible apply WB.ff | refine Rn.seq ?_ | refine Rn.reg ?_ | refine Rn.drw ?_ | refine Rn.blk ?_ | refine Rn.skip ?_ | refine Rn.ret ?_ | refine Rn.exit ?_ | refine Rn.cond rfl ?_ | refine And.intro (InR.i64 (by omega) (by omega)) ?_ | refine And.intro (show _ ≠ (0 : Int) by omega) ?_ | refine WIx.intsN (by omega) ?_ | refine WIx.rowsN (by omega) ?_ | refine WCall.pure (j_readings n coin box ls cs (ls.getD j default)) ?_) <;> conv => whnf)
        refine WCall.borrow1 cS five5 (.cells false ((ln3 (Tr.getD j default)).map fun d => Cell.o d 0) 1) (.cons ?_ (.cons (.fn .nil (.cons ?_ .nil)) .nil)) trivial rfl rfl ?_
        · exact .pu (by simp [Pu, PuL, pu_wk6, ln3])
        · exact Frz.ptr (r := ln3 (Tr.getD j default)) rfl rfl (by simp [ln3]) (by simp [ln3, PuL, Pu])
        conv => whnf
        repeat' first | ((first | with_reducible apply WB.tt | with_reducible apply WB.ff | refine Rn.seq ?_ | refine Rn.reg ?_ | refine Rn.drw ?_ | refine Rn.blk ?_ | refine Rn.skip ?_ | refine Rn.ret ?_ | refine Rn.exit ?_ | refine Rn.cond rfl ?_ | refine And.intro (InR.i64 (by omega) (by omega)) ?_ | refine And.intro (show _ ≠ (0 : Int) by omega) ?_ | refine WIx.intsN (by omega) ?_ | refine WIx.rowsN (by omega) ?_ | with_reducible refine WB.decT (by first | with_reducible rfl | assumption | omega | exact ⟨rfl, rfl⟩) ?_ | with_reducible refine WB.decF (by first | assumption | omega) ?_ | with_reducible refine WB.ndT (by first | with_reducible rfl | assumption | omega | exact ⟨rfl, rfl⟩) ?_ | with_reducible refine WB.ndF (by first | assumption | omega) ?_ | with_reducible refine WB.nt ?_ | with_reducible refine WB.nf ?_ | with_reducible refine WB.dec (fun h => ?_) (fun h => ?_) | with_reducible refine WB.ndec (fun h => ?_) (fun h => ?_) | refine WB.mk (fun h => ?_) (fun h => ?_)) <;> conv => whnf)
        rw [fold_no (hno rfl), hno rfl]
        refine ⟨.inr rfl, _, rfl, .tp (.cons (.pu ?_) (.cons (.pu trivial) .nil))⟩
        exact pu_mo126 (fun _ => mo0)
      | true =>
        obtain ⟨rk, rc, rt⟩ := rdB_bd hn hk hc ht hR
        have hm1 := monR_bd (T := Tr) hbx hcn j
        have hm2 := mixR_bd (T := Tr) j
        have cA := j_after n coin box ls cs (moR box coin Tr j) (Tr.getD j default) hcn ⟨show 0 ≤ (j : Int) by omega, show (j : Int) ≤ 50 by omega⟩ ⟨show -100000 ≤ monR box coin Tr j by omega, show monR box coin Tr j ≤ 100000 by omega⟩ ⟨show 0 ≤ mixR Tr j by omega, show mixR Tr j ≤ 50 by omega⟩ (fun q => by
          have g1 := cOut_bd Tr (q : Int) j
          have g2 := tOut_bd Tr ((q - 4 : Nat) : Int) j
          show 0 ≤ (if q < 4 then cOut Tr (q : Int) j + 1 else tOut Tr ((q - 4 : Nat) : Int) j + 1) ∧ (if q < 4 then cOut Tr (q : Int) j + 1 else tOut Tr ((q - 4 : Nat) : Int) j + 1) ≤ 50
          split <;> omega) rc rt
        rw [hR] at cS hno
        cases hP : pos1 Tr j with
        | false =>
          rw [aft_no rk rc rt hP] at cA
          rw [hP] at hno
          repeat' first | ((first | with_reducible apply WB.tt | with_reducible apply WB.ff | refine Rn.seq ?_ | refine Rn.reg ?_ | refine Rn.drw ?_ | refine Rn.blk ?_ | refine Rn.skip ?_ | refine Rn.ret ?_ | refine Rn.exit ?_ | refine Rn.cond rfl ?_ | refine And.intro (InR.i64 (by omega) (by omega)) ?_ | refine And.intro (show _ ≠ (0 : Int) by omega) ?_ | refine WIx.intsN (by omega) ?_ | refine WIx.rowsN (by omega) ?_ | refine WCall.pure (j_readings n coin box ls cs (ls.getD j default)) ?_) <;> conv => whnf)
          refine WCall.borrow1 cS five5 (.cells false ((ln3 (Tr.getD j default)).map fun d => Cell.o d 0) 1) (.cons ?_ (.cons (.fn .nil (.cons ?_ .nil)) .nil)) trivial rfl rfl ?_
          · exact .pu (by simp [Pu, PuL, pu_wk6, ln3])
          · exact Frz.ptr (r := ln3 (Tr.getD j default)) rfl rfl (by simp [ln3]) (by simp [ln3, PuL, Pu])
          conv => whnf
          repeat' first | ((first | with_reducible apply WB.tt | with_reducible apply WB.ff | refine Rn.seq ?_ | refine Rn.reg ?_ | refine Rn.drw ?_ | refine Rn.blk ?_ | refine Rn.skip ?_ | refine Rn.ret ?_ | refine Rn.exit ?_ | refine Rn.cond rfl ?_ | refine And.intro (InR.i64 (by omega) (by omega)) ?_ | refine And.intro (show _ ≠ (0 : Int) by omega) ?_ | refine WIx.intsN (by omega) ?_ | refine WIx.rowsN (by omega) ?_ | refine WCall.pure (cA) ?_ | with_reducible refine WB.decT (by first | with_reducible rfl | assumption | omega | exact ⟨rfl, rfl⟩) ?_ | with_reducible refine WB.decF (by first | assumption | omega) ?_ | with_reducible refine WB.ndT (by first | with_reducible rfl | assumption | omega | exact ⟨rfl, rfl⟩) ?_ | with_reducible refine WB.ndF (by first | assumption | omega) ?_ | with_reducible refine WB.nt ?_ | with_reducible refine WB.nf ?_ | with_reducible refine WB.dec (fun h => ?_) (fun h => ?_) | with_reducible refine WB.ndec (fun h => ?_) (fun h => ?_) | refine WB.mk (fun h => ?_) (fun h => ?_)) <;> conv => whnf)
          rw [fold_no (hno rfl), hno rfl]
          refine ⟨.inr rfl, _, rfl, .tp (.cons (.pu ?_) (.cons (.pu trivial) .nil))⟩
          exact pu_mo126 (fun _ => mo0)
        | true =>
          rw [aft_pos rk rc rt hP] at cA
          repeat' first | ((first | with_reducible apply WB.tt | with_reducible apply WB.ff | refine Rn.seq ?_ | refine Rn.reg ?_ | refine Rn.drw ?_ | refine Rn.blk ?_ | refine Rn.skip ?_ | refine Rn.ret ?_ | refine Rn.exit ?_ | refine Rn.cond rfl ?_ | refine And.intro (InR.i64 (by omega) (by omega)) ?_ | refine And.intro (show _ ≠ (0 : Int) by omega) ?_ | refine WIx.intsN (by omega) ?_ | refine WIx.rowsN (by omega) ?_ | refine WCall.pure (j_readings n coin box ls cs (ls.getD j default)) ?_) <;> conv => whnf)
          refine WCall.borrow1 cS five5 (.cells false ((ln3 (Tr.getD j default)).map fun d => Cell.o d 0) 1) (.cons ?_ (.cons (.fn .nil (.cons ?_ .nil)) .nil)) trivial rfl rfl ?_
          · exact .pu (by simp [Pu, PuL, pu_wk6, ln3])
          · exact Frz.ptr (r := ln3 (Tr.getD j default)) rfl rfl (by simp [ln3]) (by simp [ln3, PuL, Pu])
          conv => whnf
          repeat' first | ((first | with_reducible apply WB.tt | with_reducible apply WB.ff | refine Rn.seq ?_ | refine Rn.reg ?_ | refine Rn.drw ?_ | refine Rn.blk ?_ | refine Rn.skip ?_ | refine Rn.ret ?_ | refine Rn.exit ?_ | refine Rn.cond rfl ?_ | refine And.intro (InR.i64 (by omega) (by omega)) ?_ | refine And.intro (show _ ≠ (0 : Int) by omega) ?_ | refine WIx.intsN (by omega) ?_ | refine WIx.rowsN (by omega) ?_ | refine WCall.pure (cA) ?_ | with_reducible refine WB.decT (by first | with_reducible rfl | assumption | omega | exact ⟨rfl, rfl⟩) ?_ | with_reducible refine WB.decF (by first | assumption | omega) ?_ | with_reducible refine WB.ndT (by first | with_reducible rfl | assumption | omega | exact ⟨rfl, rfl⟩) ?_ | with_reducible refine WB.ndF (by first | assumption | omega) ?_ | with_reducible refine WB.nt ?_ | with_reducible refine WB.nf ?_ | with_reducible refine WB.dec (fun h => ?_) (fun h => ?_) | with_reducible refine WB.ndec (fun h => ?_) (fun h => ?_) | refine WB.mk (fun h => ?_) (fun h => ?_)) <;> conv => whnf)
          have h8 : j < 8 := by omega
          rcases eight h8 with rfl | rfl | rfl | rfl | rfl | rfl | rfl | rfl
          · refine WSt.ixaN (m := 1) rfl rfl rfl (by omega) ?_; conv => whnf
            repeat' first | ((first | with_reducible apply WB.tt | with_reducible apply WB.ff | refine Rn.seq ?_ | refine Rn.reg ?_ | refine Rn.drw ?_ | refine Rn.blk ?_ | refine Rn.skip ?_ | refine Rn.ret ?_ | refine Rn.exit ?_ | refine Rn.cond rfl ?_ | refine And.intro (InR.i64 (by omega) (by omega)) ?_ | refine And.intro (show _ ≠ (0 : Int) by omega) ?_ | refine WIx.intsN (by omega) ?_ | refine WIx.rowsN (by omega) ?_ | with_reducible refine WB.decT (by first | with_reducible rfl | assumption | omega | exact ⟨rfl, rfl⟩) ?_ | with_reducible refine WB.decF (by first | assumption | omega) ?_ | with_reducible refine WB.ndT (by first | with_reducible rfl | assumption | omega | exact ⟨rfl, rfl⟩) ?_ | with_reducible refine WB.ndF (by first | assumption | omega) ?_ | with_reducible refine WB.nt ?_ | with_reducible refine WB.nf ?_ | with_reducible refine WB.dec (fun h => ?_) (fun h => ?_) | with_reducible refine WB.ndec (fun h => ?_) (fun h => ?_) | refine WB.mk (fun h => ?_) (fun h => ?_)) <;> conv => whnf)
            refine Again.to 1 (by show Tr.length - 1 < Tr.length - 0; omega) ⟨by omega, fun p hp => ?_⟩ (Nat.le_refl _) (Shr.kp2 ?_ (fwS_kp _ _) ?_ (fwO_kp _ _ _ _ _ _ _))
            · by_cases e : p = 0
              · subst e; rw [hR, hP]; rfl
              · exact hq p (by omega)
            · (unfold fwS; repeat' first | exact T.le_e _ | refine T.le_some ?_ rfl ?_ | refine T.le_none ?_ ?_)
            · (unfold fwO; repeat' first | exact T.le_e _ | refine T.le_some ?_ rfl ?_ | refine T.le_none ?_ ?_)
          · refine WSt.ixaN (m := 2) rfl rfl rfl (by omega) ?_; conv => whnf
            repeat' first | ((first | with_reducible apply WB.tt | with_reducible apply WB.ff | refine Rn.seq ?_ | refine Rn.reg ?_ | refine Rn.drw ?_ | refine Rn.blk ?_ | refine Rn.skip ?_ | refine Rn.ret ?_ | refine Rn.exit ?_ | refine Rn.cond rfl ?_ | refine And.intro (InR.i64 (by omega) (by omega)) ?_ | refine And.intro (show _ ≠ (0 : Int) by omega) ?_ | refine WIx.intsN (by omega) ?_ | refine WIx.rowsN (by omega) ?_ | with_reducible refine WB.decT (by first | with_reducible rfl | assumption | omega | exact ⟨rfl, rfl⟩) ?_ | with_reducible refine WB.decF (by first | assumption | omega) ?_ | with_reducible refine WB.ndT (by first | with_reducible rfl | assumption | omega | exact ⟨rfl, rfl⟩) ?_ | with_reducible refine WB.ndF (by first | assumption | omega) ?_ | with_reducible refine WB.nt ?_ | with_reducible refine WB.nf ?_ | with_reducible refine WB.dec (fun h => ?_) (fun h => ?_) | with_reducible refine WB.ndec (fun h => ?_) (fun h => ?_) | refine WB.mk (fun h => ?_) (fun h => ?_)) <;> conv => whnf)
            refine Again.to 2 (by show Tr.length - 2 < Tr.length - 1; omega) ⟨by omega, fun p hp => ?_⟩ (Nat.le_refl _) (Shr.kp2 ?_ (fwS_kp _ _) ?_ (fwO_kp _ _ _ _ _ _ _))
            · by_cases e : p = 1
              · subst e; rw [hR, hP]; rfl
              · exact hq p (by omega)
            · (unfold fwS; repeat' first | exact T.le_e _ | refine T.le_some ?_ rfl ?_ | refine T.le_none ?_ ?_)
            · (unfold fwO; repeat' first | exact T.le_e _ | refine T.le_some ?_ rfl ?_ | refine T.le_none ?_ ?_)
          · refine WSt.ixaN (m := 3) rfl rfl rfl (by omega) ?_; conv => whnf
            repeat' first | ((first | with_reducible apply WB.tt | with_reducible apply WB.ff | refine Rn.seq ?_ | refine Rn.reg ?_ | refine Rn.drw ?_ | refine Rn.blk ?_ | refine Rn.skip ?_ | refine Rn.ret ?_ | refine Rn.exit ?_ | refine Rn.cond rfl ?_ | refine And.intro (InR.i64 (by omega) (by omega)) ?_ | refine And.intro (show _ ≠ (0 : Int) by omega) ?_ | refine WIx.intsN (by omega) ?_ | refine WIx.rowsN (by omega) ?_ | with_reducible refine WB.decT (by first | with_reducible rfl | assumption | omega | exact ⟨rfl, rfl⟩) ?_ | with_reducible refine WB.decF (by first | assumption | omega) ?_ | with_reducible refine WB.ndT (by first | with_reducible rfl | assumption | omega | exact ⟨rfl, rfl⟩) ?_ | with_reducible refine WB.ndF (by first | assumption | omega) ?_ | with_reducible refine WB.nt ?_ | with_reducible refine WB.nf ?_ | with_reducible refine WB.dec (fun h => ?_) (fun h => ?_) | with_reducible refine WB.ndec (fun h => ?_) (fun h => ?_) | refine WB.mk (fun h => ?_) (fun h => ?_)) <;> conv => whnf)
            refine Again.to 3 (by show Tr.length - 3 < Tr.length - 2; omega) ⟨by omega, fun p hp => ?_⟩ (Nat.le_refl _) (Shr.kp2 ?_ (fwS_kp _ _) ?_ (fwO_kp _ _ _ _ _ _ _))
            · by_cases e : p = 2
              · subst e; rw [hR, hP]; rfl
              · exact hq p (by omega)
            · (unfold fwS; repeat' first | exact T.le_e _ | refine T.le_some ?_ rfl ?_ | refine T.le_none ?_ ?_)
            · (unfold fwO; repeat' first | exact T.le_e _ | refine T.le_some ?_ rfl ?_ | refine T.le_none ?_ ?_)
          · refine WSt.ixaN (m := 4) rfl rfl rfl (by omega) ?_; conv => whnf
            repeat' first | ((first | with_reducible apply WB.tt | with_reducible apply WB.ff | refine Rn.seq ?_ | refine Rn.reg ?_ | refine Rn.drw ?_ | refine Rn.blk ?_ | refine Rn.skip ?_ | refine Rn.ret ?_ | refine Rn.exit ?_ | refine Rn.cond rfl ?_ | refine And.intro (InR.i64 (by omega) (by omega)) ?_ | refine And.intro (show _ ≠ (0 : Int) by omega) ?_ | refine WIx.intsN (by omega) ?_ | refine WIx.rowsN (by omega) ?_ | with_reducible refine WB.decT (by first | with_reducible rfl | assumption | omega | exact ⟨rfl, rfl⟩) ?_ | with_reducible refine WB.decF (by first | assumption | omega) ?_ | with_reducible refine WB.ndT (by first | with_reducible rfl | assumption | omega | exact ⟨rfl, rfl⟩) ?_ | with_reducible refine WB.ndF (by first | assumption | omega) ?_ | with_reducible refine WB.nt ?_ | with_reducible refine WB.nf ?_ | with_reducible refine WB.dec (fun h => ?_) (fun h => ?_) | with_reducible refine WB.ndec (fun h => ?_) (fun h => ?_) | refine WB.mk (fun h => ?_) (fun h => ?_)) <;> conv => whnf)
            refine Again.to 4 (by show Tr.length - 4 < Tr.length - 3; omega) ⟨by omega, fun p hp => ?_⟩ (Nat.le_refl _) (Shr.kp2 ?_ (fwS_kp _ _) ?_ (fwO_kp _ _ _ _ _ _ _))
            · by_cases e : p = 3
              · subst e; rw [hR, hP]; rfl
              · exact hq p (by omega)
            · (unfold fwS; repeat' first | exact T.le_e _ | refine T.le_some ?_ rfl ?_ | refine T.le_none ?_ ?_)
            · (unfold fwO; repeat' first | exact T.le_e _ | refine T.le_some ?_ rfl ?_ | refine T.le_none ?_ ?_)
          · refine WSt.ixaN (m := 5) rfl rfl rfl (by omega) ?_; conv => whnf
            repeat' first | ((first | with_reducible apply WB.tt | with_reducible apply WB.ff | refine Rn.seq ?_ | refine Rn.reg ?_ | refine Rn.drw ?_ | refine Rn.blk ?_ | refine Rn.skip ?_ | refine Rn.ret ?_ | refine Rn.exit ?_ | refine Rn.cond rfl ?_ | refine And.intro (InR.i64 (by omega) (by omega)) ?_ | refine And.intro (show _ ≠ (0 : Int) by omega) ?_ | refine WIx.intsN (by omega) ?_ | refine WIx.rowsN (by omega) ?_ | with_reducible refine WB.decT (by first | with_reducible rfl | assumption | omega | exact ⟨rfl, rfl⟩) ?_ | with_reducible refine WB.decF (by first | assumption | omega) ?_ | with_reducible refine WB.ndT (by first | with_reducible rfl | assumption | omega | exact ⟨rfl, rfl⟩) ?_ | with_reducible refine WB.ndF (by first | assumption | omega) ?_ | with_reducible refine WB.nt ?_ | with_reducible refine WB.nf ?_ | with_reducible refine WB.dec (fun h => ?_) (fun h => ?_) | with_reducible refine WB.ndec (fun h => ?_) (fun h => ?_) | refine WB.mk (fun h => ?_) (fun h => ?_)) <;> conv => whnf)
            refine Again.to 5 (by show Tr.length - 5 < Tr.length - 4; omega) ⟨by omega, fun p hp => ?_⟩ (Nat.le_refl _) (Shr.kp2 ?_ (fwS_kp _ _) ?_ (fwO_kp _ _ _ _ _ _ _))
            · by_cases e : p = 4
              · subst e; rw [hR, hP]; rfl
              · exact hq p (by omega)
            · (unfold fwS; repeat' first | exact T.le_e _ | refine T.le_some ?_ rfl ?_ | refine T.le_none ?_ ?_)
            · (unfold fwO; repeat' first | exact T.le_e _ | refine T.le_some ?_ rfl ?_ | refine T.le_none ?_ ?_)
          · refine WSt.ixaN (m := 6) rfl rfl rfl (by omega) ?_; conv => whnf
            repeat' first | ((first | with_reducible apply WB.tt | with_reducible apply WB.ff | refine Rn.seq ?_ | refine Rn.reg ?_ | refine Rn.drw ?_ | refine Rn.blk ?_ | refine Rn.skip ?_ | refine Rn.ret ?_ | refine Rn.exit ?_ | refine Rn.cond rfl ?_ | refine And.intro (InR.i64 (by omega) (by omega)) ?_ | refine And.intro (show _ ≠ (0 : Int) by omega) ?_ | refine WIx.intsN (by omega) ?_ | refine WIx.rowsN (by omega) ?_ | with_reducible refine WB.decT (by first | with_reducible rfl | assumption | omega | exact ⟨rfl, rfl⟩) ?_ | with_reducible refine WB.decF (by first | assumption | omega) ?_ | with_reducible refine WB.ndT (by first | with_reducible rfl | assumption | omega | exact ⟨rfl, rfl⟩) ?_ | with_reducible refine WB.ndF (by first | assumption | omega) ?_ | with_reducible refine WB.nt ?_ | with_reducible refine WB.nf ?_ | with_reducible refine WB.dec (fun h => ?_) (fun h => ?_) | with_reducible refine WB.ndec (fun h => ?_) (fun h => ?_) | refine WB.mk (fun h => ?_) (fun h => ?_)) <;> conv => whnf)
            refine Again.to 6 (by show Tr.length - 6 < Tr.length - 5; omega) ⟨by omega, fun p hp => ?_⟩ (Nat.le_refl _) (Shr.kp2 ?_ (fwS_kp _ _) ?_ (fwO_kp _ _ _ _ _ _ _))
            · by_cases e : p = 5
              · subst e; rw [hR, hP]; rfl
              · exact hq p (by omega)
            · (unfold fwS; repeat' first | exact T.le_e _ | refine T.le_some ?_ rfl ?_ | refine T.le_none ?_ ?_)
            · (unfold fwO; repeat' first | exact T.le_e _ | refine T.le_some ?_ rfl ?_ | refine T.le_none ?_ ?_)
          · refine WSt.ixaN (m := 7) rfl rfl rfl (by omega) ?_; conv => whnf
            repeat' first | ((first | with_reducible apply WB.tt | with_reducible apply WB.ff | refine Rn.seq ?_ | refine Rn.reg ?_ | refine Rn.drw ?_ | refine Rn.blk ?_ | refine Rn.skip ?_ | refine Rn.ret ?_ | refine Rn.exit ?_ | refine Rn.cond rfl ?_ | refine And.intro (InR.i64 (by omega) (by omega)) ?_ | refine And.intro (show _ ≠ (0 : Int) by omega) ?_ | refine WIx.intsN (by omega) ?_ | refine WIx.rowsN (by omega) ?_ | with_reducible refine WB.decT (by first | with_reducible rfl | assumption | omega | exact ⟨rfl, rfl⟩) ?_ | with_reducible refine WB.decF (by first | assumption | omega) ?_ | with_reducible refine WB.ndT (by first | with_reducible rfl | assumption | omega | exact ⟨rfl, rfl⟩) ?_ | with_reducible refine WB.ndF (by first | assumption | omega) ?_ | with_reducible refine WB.nt ?_ | with_reducible refine WB.nf ?_ | with_reducible refine WB.dec (fun h => ?_) (fun h => ?_) | with_reducible refine WB.ndec (fun h => ?_) (fun h => ?_) | refine WB.mk (fun h => ?_) (fun h => ?_)) <;> conv => whnf)
            refine Again.to 7 (by show Tr.length - 7 < Tr.length - 6; omega) ⟨by omega, fun p hp => ?_⟩ (Nat.le_refl _) (Shr.kp2 ?_ (fwS_kp _ _) ?_ (fwO_kp _ _ _ _ _ _ _))
            · by_cases e : p = 6
              · subst e; rw [hR, hP]; rfl
              · exact hq p (by omega)
            · (unfold fwS; repeat' first | exact T.le_e _ | refine T.le_some ?_ rfl ?_ | refine T.le_none ?_ ?_)
            · (unfold fwO; repeat' first | exact T.le_e _ | refine T.le_some ?_ rfl ?_ | refine T.le_none ?_ ?_)
          · refine WSt.ixaN (m := 8) rfl rfl rfl (by omega) ?_; conv => whnf
            repeat' first | ((first | with_reducible apply WB.tt | with_reducible apply WB.ff | refine Rn.seq ?_ | refine Rn.reg ?_ | refine Rn.drw ?_ | refine Rn.blk ?_ | refine Rn.skip ?_ | refine Rn.ret ?_ | refine Rn.exit ?_ | refine Rn.cond rfl ?_ | refine And.intro (InR.i64 (by omega) (by omega)) ?_ | refine And.intro (show _ ≠ (0 : Int) by omega) ?_ | refine WIx.intsN (by omega) ?_ | refine WIx.rowsN (by omega) ?_ | with_reducible refine WB.decT (by first | with_reducible rfl | assumption | omega | exact ⟨rfl, rfl⟩) ?_ | with_reducible refine WB.decF (by first | assumption | omega) ?_ | with_reducible refine WB.ndT (by first | with_reducible rfl | assumption | omega | exact ⟨rfl, rfl⟩) ?_ | with_reducible refine WB.ndF (by first | assumption | omega) ?_ | with_reducible refine WB.nt ?_ | with_reducible refine WB.nf ?_ | with_reducible refine WB.dec (fun h => ?_) (fun h => ?_) | with_reducible refine WB.ndec (fun h => ?_) (fun h => ?_) | refine WB.mk (fun h => ?_) (fun h => ?_)) <;> conv => whnf)
            refine Again.to 8 (by show Tr.length - 8 < Tr.length - 7; omega) ⟨by omega, fun p hp => ?_⟩ (Nat.le_refl _) (Shr.kp2 ?_ (fwS_kp _ _) ?_ (fwO_kp _ _ _ _ _ _ _))
            · by_cases e : p = 7
              · subst e; rw [hR, hP]; rfl
              · exact hq p (by omega)
            · (unfold fwS; repeat' first | exact T.le_e _ | refine T.le_some ?_ rfl ?_ | refine T.le_none ?_ ?_)
            · (unfold fwO; repeat' first | exact T.le_e _ | refine T.le_some ?_ rfl ?_ | refine T.le_none ?_ ?_)
    · repeat' first | ((first | with_reducible apply WB.tt | with_reducible apply WB.ff | refine Rn.seq ?_ | refine Rn.reg ?_ | refine Rn.drw ?_ | refine Rn.blk ?_ | refine Rn.skip ?_ | refine Rn.ret ?_ | refine Rn.exit ?_ | refine Rn.cond rfl ?_ | refine And.intro (InR.i64 (by omega) (by omega)) ?_ | refine And.intro (show _ ≠ (0 : Int) by omega) ?_ | refine WIx.intsN (by omega) ?_ | refine WIx.rowsN (by omega) ?_) <;> conv => whnf)
      have hjj : j = Tr.length := by omega
      have hyes : followB n ls Tr = true := by
        unfold followB
        rw [decide_eq_true hl, Bool.true_and, List.all_eq_true]
        intro q h
        exact hq q (by have := List.mem_range.1 h; omega)
      have hfo : folF box coin n ls Tr = moF box coin Tr Tr.length := by unfold folF; rw [hyes]; rfl
      rw [hfo, hyes, ← hjj]
      refine ⟨.inr rfl, _, rfl, .tp (.cons (.pu ?_) (.cons (.pu trivial) .nil))⟩
      exact pu_mo126 (moF box coin Tr j)
  · have hno : followB n ls Tr = false := by
      unfold followB
      rw [decide_eq_false hl]; rfl
    rw [fold_no hno, hno]
    repeat' first | ((first | with_reducible apply WB.tt | with_reducible apply WB.ff | refine Rn.seq ?_ | refine Rn.reg ?_ | refine Rn.drw ?_ | refine Rn.blk ?_ | refine Rn.skip ?_ | refine Rn.ret ?_ | refine Rn.exit ?_ | refine Rn.cond rfl ?_ | refine And.intro (InR.i64 (by omega) (by omega)) ?_ | refine And.intro (show _ ≠ (0 : Int) by omega) ?_ | refine WIx.intsN (by omega) ?_ | refine WIx.rowsN (by omega) ?_ | with_reducible refine WB.decT (by first | with_reducible rfl | assumption | omega | exact ⟨rfl, rfl⟩) ?_ | with_reducible refine WB.decF (by first | assumption | omega) ?_ | with_reducible refine WB.ndT (by first | with_reducible rfl | assumption | omega | exact ⟨rfl, rfl⟩) ?_ | with_reducible refine WB.ndF (by first | assumption | omega) ?_ | with_reducible refine WB.nt ?_ | with_reducible refine WB.nf ?_ | with_reducible refine WB.dec (fun h => ?_) (fun h => ?_) | with_reducible refine WB.ndec (fun h => ?_) (fun h => ?_) | refine WB.mk (fun h => ?_) (fun h => ?_)) <;> conv => whnf)
    all_goals first
      | (exfalso; omega)
      | skip
    refine ⟨.inr rfl, _, rfl, .tp (.cons (.pu ?_) (.cons (.pu trivial) .nil))⟩
    exact pu_mo126 (fun _ => mo0)
end Go.Ev
