import Derived.Test.YtjgbfnciedkafaaEvUN8
import Derived.Test.YtjgbfnciedkafaaEvUGc
set_option linter.all false
namespace Go.Ev
open Go.Proofs
set_option maxRecDepth 100000
theorem WSt.shrN {sl : T D} {ob : T C} {nx : Pos} {lg : Option (T Bool)} {K : X → Prop} {d : Pos} {a j : Nat} {x y : RX} (hx : opd sl x = some (.i .i64 (a : Int))) (hy : opd sl y = some (.i .u64 (j : Int))) (ha : a ≤ 1000) (hj : j ≤ 63) (k : wOut sl ob nx lg d K (.i .i64 ((a / 2 ^ j : Nat) : Int))) : WSt (.bin d .shr x y) ⟨sl, ob, nx, lg⟩ K := by
  obtain ⟨k2, k3⟩ := wOut_ok k
  refine ⟨_, ?_, k3⟩
  show s_bin d .shr x y sl ob nx lg = _
  unfold s_bin
  rw [hx, hy]
  have hm : minN j 64 = j := by
    unfold minN
    rw [Nat.ble_eq_true_of_le (show j ≤ 64 by omega)]
    rfl
  have hs : ishr ((a : Nat) : Int) j = ((a / 2 ^ j : Nat) : Int) := rfl
  have hb : Nat.ble (a / 2 ^ j) 9223372036854775807 = true := Nat.ble_eq_true_of_le (Nat.le_trans (Nat.div_le_self _ _) (by omega))
  show intK .i64 (ishr ((a : Nat) : Int) (minN j 64)) _ = _
  rw [hm, hs]
  rw [intK_eq]
  exact k2
noncomputable def outQ (n coin box : Int) (d : D) : C := .cells false [.o (.i .i64 n) 0, .o (.i .i64 coin) 0, .o (.i .i64 box) 0, .o d 0, .o .ns 0] 1
theorem outQ_sh {n coin box : Int} {d : D} {B : Pos → Prop} {ob : T C} (h : Fz B ob d d) : ShC B ob (outQ n coin box d) (outQ n coin box d) := ShC.same (ShC.cn (.pu trivial) (ShC.cn (.pu trivial) (ShC.cn (.pu trivial) (ShC.cn h (ShC.cn (.pu trivial) ShC.nl)))))
def slP : List Ln → D
  | [] => .ns
  | _ :: s => .sl (.i (.o .h)) 0 (s.length + 1) s.length 3
def blP : List Ln → Option C
  | [] => none
  | a :: s => some (.cells false ((lnF (a :: s)).map fun d => Cell.o d s.length) (s.length + 1))
def nxP : List Ln → Pos
  | [] => .o (.o .h)
  | _ :: _ => .o (.i .h)
theorem slP_snoc (a : Ln) (s : List Ln) (x : Ln) : slP (a :: (s ++ [x])) = .sl (.i (.o .h)) 0 (s.length + 1 + 1) (s.length + 1) 3 := by simp [slP]
theorem blP_snoc (a : Ln) (s : List Ln) (x : Ln) : blP (a :: (s ++ [x])) = some (.cells false ((lnF (a :: s) ++ lnD x).map fun d => Cell.o d (s.length + 1)) (s.length + 1 + 1)) := by
  have h := lnF_snoc (a :: s) x
  have h2 : lnF (a :: (s ++ [x])) = lnF (a :: s) ++ lnD x := h
  simp [blP, h2]
noncomputable def pkS (n coin box : Int) (ls : List Ln) (b : Nat) (A : List Ln) (j : Nat) : X := ⟨(.n (.n .e (some (.i .i64 ((2 ^ b - 1 : Nat) : Int))) (.n .e (some (.pt (.i .h) 0 0)) .e)) none (.n (.n .e (some (.pt (.o .h) 0 0)) .e) (some (.pt .h 0 0)) (.n .e (some (.i .i64 (j : Int))) .e))), .n (.n .e (some bz5) .e) (some (bkC n coin box ls [])) (.n (.n .e (blP A) .e) (some (outQ n coin box (slP A))) .e), nxP A, none⟩
theorem bit_tab : ∀ b : _root_.Fin 9, ∀ j : _root_.Fin 8, (2 ^ b.1 - 1) / 2 ^ j.1 % 2 = if j.1 < b.1 then 1 else 0 := by decide
theorem bit_low {b j : Nat} (hbn : b ≤ 8) (hj : j < 8) : (2 ^ b - 1) / 2 ^ j % 2 = if j < b then 1 else 0 := bit_tab ⟨b, by omega⟩ ⟨j, hj⟩
theorem low_tab : ∀ b : _root_.Fin 9, 2 ^ b.1 - 1 ≤ 255 := by decide
theorem low_le {b : Nat} (hbn : b ≤ 8) : 2 ^ b - 1 ≤ 255 := low_tab ⟨b, by omega⟩
set_option maxHeartbeats 2000000 in
theorem j_pick (n coin box : Int) (ls : List Ln) (b : Nat) (hbn : b ≤ 8) (hm : ls.length ≤ 8) : PureF Try.prog p65.ix [.ag [.i .i64 n, .i .i64 coin, .i .i64 box, .lst 3 (rows lnD ls), .lst 3 (rows ctD [])], .i .i64 ((2 ^ b - 1 : Nat) : Int)] (.ag [.i .i64 n, .i .i64 coin, .i .i64 box, .lst 3 (rows lnD (ls.take b)), .lst 3 (rows ctD [])]) := by
  have e3 := rows_length lnD ls
  have ez : ((rows ctD ([] : List Ct)).length : Int) = 0 := rfl
  have hb := low_le hbn
  refine PureF.run fn64 (by simp) (by simp [PuL, PuE, Pu, pu_ln, pu_ct]) ?_; conv => whnf
  repeat' first | ((first | with_reducible (first | apply Qt | apply Qu) | refine Qa rfl ?_ | refine Qk rfl ?_ | refine Qb ?_ | refine Qc ?_ | refine Qi ?_ | refine Qj ?_) <;> conv => whnf)
  refine Rn.loop (fun j : Nat => pkS n coin box ls b ((ls.take b).take j) j) (fun j => j ≤ ls.length) (fun j => ls.length - j) 0 ?_ ?_ ?_
  · refine X.le.mk ?_ ?_ (Nat.le_refl _) rfl rfl
    · show T.le ((.n (.n .e (some (.i .i64 ((2 ^ b - 1 : Nat) : Int))) (.n .e (some (.pt (.i .h) 0 0)) .e)) none (.n (.n .e (some (.pt (.o .h) 0 0)) .e) (some (.pt .h 0 0)) (.n .e (some (.i .i64 0)) .e))) : T D) _
      (repeat' first | exact T.le_e _ | refine T.le_some ?_ rfl ?_ | refine T.le_none ?_ ?_)
    · show T.le (.n (.n .e (some bz5) .e) (some (bkC n coin box ls [])) (.n (.n .e none .e) (some (outQ n coin box .ns)) .e)) _
      (repeat' first | exact T.le_e _ | refine T.le_some ?_ rfl ?_ | refine T.le_none ?_ ?_ | refine T.le_ee ?_ ?_)
  · exact Nat.zero_le _
  intro j hj
  have hj : j ≤ ls.length := hj
  have hAl : ((ls.take b).take j).length ≤ 8 := by rw [List.length_take, List.length_take]; omega
  have hy : j < ls.length → j < b → (ls.take b).take (j + 1) = (ls.take b).take j ++ [ls.getD j default] := fun h1 h2 => by
    rw [take_succ_getD (d := default) (by rw [List.length_take]; omega)]
    congr 1
    simp [List.getD, h1, h2]
  have hno : j < ls.length → ¬ j < b → (ls.take b).take (j + 1) = (ls.take b).take j := fun h1 h2 => by
    rw [List.take_take, List.take_take, Nat.min_eq_right (by omega), Nat.min_eq_right (by omega)]
  have hend : j = ls.length → (ls.take b).take j = ls.take b := fun e => List.take_of_length_le (by rw [List.length_take]; omega)
  generalize hA : (ls.take b).take j = A at *
  conv => whnf
  repeat' first | ((first | with_reducible (first | apply Qt | apply Qu) | refine Qa rfl ?_ | refine Qk rfl ?_ | refine Qb ?_ | refine Qc ?_ | refine Qi ?_ | refine Qj ?_) <;> conv => whnf)
  refine WB.dec (fun h => ?_) (fun h => ?_) <;> conv => whnf
  · have hlt : j < ls.length := by omega
    have hbit := bit_low (b := b) (j := j) hbn (by omega)
    have hq : (2 ^ b - 1) / 2 ^ j ≤ 255 := Nat.le_trans (Nat.div_le_self _ _) hb
    have hy := hy hlt
    have hno := hno hlt
    repeat' first | ((first | with_reducible (first | apply Qt | apply Qu) | refine Qa rfl ?_ | refine Qk rfl ?_ | refine Qb ?_ | refine Qc ?_ | refine Qi ?_ | refine Qj ?_) <;> conv => whnf)
    refine And.intro (InR.u64 (by omega) (by omega)) ?_; conv => whnf
    repeat' first | ((first | with_reducible (first | apply Qt | apply Qu) | refine Qa rfl ?_ | refine Qk rfl ?_ | refine Qb ?_ | refine Qc ?_ | refine Qi ?_ | refine Qj ?_) <;> conv => whnf)
    refine WSt.shrN (by rfl) (by rfl) (by omega) (by omega) ?_; conv => whnf
    generalize (2 ^ b - 1) / 2 ^ j = q at *
    have hrem : (q : Int).tmod 2 = if j < b then 1 else 0 := by
      rw [Int.tmod_eq_emod_of_nonneg (by omega)]
      have : ((q % 2 : Nat) : Int) = if j < b then 1 else 0 := by rw [hbit]; split <;> rfl
      omega
    repeat' first | ((first | with_reducible (first | apply Qt | apply Qu) | refine Qa rfl ?_ | refine Qk rfl ?_ | refine Qb ?_ | refine Qc ?_ | refine Qi ?_ | refine Qj ?_) <;> conv => whnf)
    rw [hrem]
    by_cases hjn : j < b
    · rw [if_pos hjn]
      have hy := hy hjn
      refine WB.tt ?_; conv => whnf
      cases A with
      | nil =>
        repeat' first | ((first | with_reducible (first | apply Qt | apply Qu) | refine Qa rfl ?_ | refine Qk rfl ?_ | refine Qb ?_ | refine Qc ?_ | refine Qi ?_ | refine Qj ?_) <;> conv => whnf)
        refine WSt.app_firstL (r := lnD (ls.getD j default)) rfl (.inl rfl) rfl rfl rfl rfl ?_; conv => whnf
        repeat' first | ((first | with_reducible (first | apply Qt | apply Qu) | refine Qa rfl ?_ | refine Qk rfl ?_ | refine Qb ?_ | refine Qc ?_ | refine Qi ?_ | refine Qj ?_) <;> conv => whnf)
        refine Again.to (j + 1) (by omega) (by omega) (by show (nxP ((ls.take b).take j)).nat ≤ (nxP ((ls.take b).take (j + 1))).nat; rw [hA, hy]; exact (show 4 ≤ 6 by omega)) ?_
        show Shr _ (pkS n coin box ls b ((ls.take b).take (j + 1)) (j + 1))
        rw [hy]
        refine Shr.of ?_ ?_ rfl rfl
        · show Rel _ _ ((.n (.n .e (some (.i .i64 ((2 ^ b - 1 : Nat) : Int))) (.n .e (some (.pt (.i .h) 0 0)) .e)) none (.n (.n .e (some (.pt (.o .h) 0 0)) .e) (some (.pt .h 0 0)) (.n .e (some (.i .i64 ((j + 1 : Nat) : Int))) .e))) : T D) _
          (repeat' first | exact Rel.e | refine Rel.some ?_ ?_ ?_ | refine Rel.none ?_ ?_ | refine Rel.ee ?_ ?_)
          all_goals show Fz _ _ _ _
          all_goals first | exact .pu trivial | exact .kpt (show _ < 6 by simp [Pos.nat])
        · show Rel _ _ (.n (.n .e (some bz5) .e) (some (bkC n coin box ls [])) (.n (.n .e (some (.cells false ((lnF [ls.getD j default]).map fun d => Cell.o d 0) 1)) .e) (some (outQ n coin box (.sl (.i (.o .h)) 0 1 0 3))) .e)) _
          rw [show lnF [ls.getD j default] = lnD (ls.getD j default) by simp [lnF, rows]]
          (repeat' first | exact Rel.e | refine Rel.some ?_ ?_ ?_ | refine Rel.none ?_ ?_ | refine Rel.ee ?_ ?_)
          all_goals first
            | exact RO'.of (show _ < 6 by simp [Pos.nat]) bz5_sh
            | exact RO'.of (show _ < 6 by simp [Pos.nat]) ((ShC.kp (bkC_kp _ _ _ _ _ _)))
            | exact RO'.of (show _ < 6 by simp [Pos.nat]) (outQ_sh (.pu trivial))
            | exact RO'.of (show _ < 6 by simp [Pos.nat]) (outQ_sh (.ksl (show _ < 6 by simp [Pos.nat])))
            | exact RO'.of (show _ < 6 by simp [Pos.nat]) (ShC.same (ShC.cn (.pu trivial) (ShC.cn (.pu trivial) (ShC.cn (.pu trivial) ShC.nl))))
      | cons a s =>
        have hs5 : s.length + 1 ≤ 8 := hAl
        repeat' first | ((first | with_reducible (first | apply Qt | apply Qu) | refine Qa rfl ?_ | refine Qk rfl ?_ | refine Qb ?_ | refine Qc ?_ | refine Qi ?_ | refine Qj ?_) <;> conv => whnf)
        refine WSt.app_oneL (ds := lnF (a :: s)) (r := lnD (ls.getD j default)) rfl rfl rfl rfl rfl rfl (by rw [lnF_len]; rfl) rfl rfl (by omega) rfl ?_; conv => whnf
        repeat' first | ((first | with_reducible (first | apply Qt | apply Qu) | refine Qa rfl ?_ | refine Qk rfl ?_ | refine Qb ?_ | refine Qc ?_ | refine Qi ?_ | refine Qj ?_) <;> conv => whnf)
        refine Again.to (j + 1) (by omega) (by omega) (by show (nxP ((ls.take b).take j)).nat ≤ (nxP ((ls.take b).take (j + 1))).nat; rw [hA, hy]; exact (show 6 ≤ 6 by omega)) ?_
        show Shr _ (pkS n coin box ls b ((ls.take b).take (j + 1)) (j + 1))
        rw [hy, List.cons_append]
        refine Shr.of ?_ ?_ rfl rfl
        · show Rel _ _ ((.n (.n .e (some (.i .i64 ((2 ^ b - 1 : Nat) : Int))) (.n .e (some (.pt (.i .h) 0 0)) .e)) none (.n (.n .e (some (.pt (.o .h) 0 0)) .e) (some (.pt .h 0 0)) (.n .e (some (.i .i64 ((j + 1 : Nat) : Int))) .e))) : T D) _
          (repeat' first | exact Rel.e | refine Rel.some ?_ ?_ ?_ | refine Rel.none ?_ ?_ | refine Rel.ee ?_ ?_)
          all_goals show Fz _ _ _ _
          all_goals first | exact .pu trivial | exact .kpt (show _ < 6 by simp [Pos.nat])
        · show Rel _ _ (.n (.n .e (some bz5) .e) (some (bkC n coin box ls [])) (.n (.n .e (blP (a :: (s ++ [ls.getD j default]))) .e) (some (outQ n coin box (slP (a :: (s ++ [ls.getD j default]))))) .e)) _
          rw [slP_snoc, blP_snoc]
          (repeat' first | exact Rel.e | refine Rel.some ?_ ?_ ?_ | refine Rel.none ?_ ?_ | refine Rel.ee ?_ ?_)
          all_goals first
            | exact RO'.of (show _ < 6 by simp [Pos.nat]) bz5_sh
            | exact RO'.of (show _ < 6 by simp [Pos.nat]) ((ShC.kp (bkC_kp _ _ _ _ _ _)))
            | exact RO'.of (show _ < 6 by simp [Pos.nat]) (outQ_sh (.pu trivial))
            | exact RO'.of (show _ < 6 by simp [Pos.nat]) (outQ_sh (.ksl (show _ < 6 by simp [Pos.nat])))
            | (refine RO'.of (show _ < 6 by simp [Pos.nat]) ?_
               exact ShC.grown (by omega) (PuL_iff.2 fun d hd => by
                 rcases List.mem_append.1 hd with hd | hd
                 · exact PuL_iff.1 (lnF_pu _) d hd
                 · exact PuL_iff.1 (show PuL (lnD _) by simp [lnD, PuL, Pu]) d hd))
    · rw [if_neg hjn]
      have hno := hno hjn
      refine WB.ff ?_; conv => whnf
      cases A with
      | nil =>
        repeat' first | ((first | with_reducible (first | apply Qt | apply Qu) | refine Qa rfl ?_ | refine Qk rfl ?_ | refine Qb ?_ | refine Qc ?_ | refine Qi ?_ | refine Qj ?_) <;> conv => whnf)
        refine Again.to (j + 1) (by omega) (by omega) (by show (nxP ((ls.take b).take j)).nat ≤ (nxP ((ls.take b).take (j + 1))).nat; rw [hA, hno]; exact (show 4 ≤ 4 by omega)) ?_
        show Shr _ (pkS n coin box ls b ((ls.take b).take (j + 1)) (j + 1))
        rw [hno]
        refine Shr.of ?_ ?_ rfl rfl
        · show Rel _ _ ((.n (.n .e (some (.i .i64 ((2 ^ b - 1 : Nat) : Int))) (.n .e (some (.pt (.i .h) 0 0)) .e)) none (.n (.n .e (some (.pt (.o .h) 0 0)) .e) (some (.pt .h 0 0)) (.n .e (some (.i .i64 ((j + 1 : Nat) : Int))) .e))) : T D) _
          (repeat' first | exact Rel.e | refine Rel.some ?_ ?_ ?_ | refine Rel.none ?_ ?_ | refine Rel.ee ?_ ?_)
          all_goals show Fz _ _ _ _
          all_goals first | exact .pu trivial | exact .kpt (show _ < 4 by simp [Pos.nat])
        · show Rel _ _ (.n (.n .e (some bz5) .e) (some (bkC n coin box ls [])) (.n (.n .e none .e) (some (outQ n coin box .ns)) .e)) _
          skip
          (repeat' first | exact Rel.e | refine Rel.some ?_ ?_ ?_ | refine Rel.none ?_ ?_ | refine Rel.ee ?_ ?_)
          all_goals first
            | exact RO'.of (show _ < 4 by simp [Pos.nat]) bz5_sh
            | exact RO'.of (show _ < 4 by simp [Pos.nat]) ((ShC.kp (bkC_kp _ _ _ _ _ _)))
            | exact RO'.of (show _ < 4 by simp [Pos.nat]) (outQ_sh (.pu trivial))
            | exact RO'.of (show _ < 4 by simp [Pos.nat]) (outQ_sh (.ksl (show _ < 4 by simp [Pos.nat])))
      | cons a s =>
        repeat' first | ((first | with_reducible (first | apply Qt | apply Qu) | refine Qa rfl ?_ | refine Qk rfl ?_ | refine Qb ?_ | refine Qc ?_ | refine Qi ?_ | refine Qj ?_) <;> conv => whnf)
        refine Again.to (j + 1) (by omega) (by omega) (by show (nxP ((ls.take b).take j)).nat ≤ (nxP ((ls.take b).take (j + 1))).nat; rw [hA, hno]; exact (show 6 ≤ 6 by omega)) ?_
        show Shr _ (pkS n coin box ls b ((ls.take b).take (j + 1)) (j + 1))
        rw [hno]
        refine Shr.of ?_ ?_ rfl rfl
        · show Rel _ _ ((.n (.n .e (some (.i .i64 ((2 ^ b - 1 : Nat) : Int))) (.n .e (some (.pt (.i .h) 0 0)) .e)) none (.n (.n .e (some (.pt (.o .h) 0 0)) .e) (some (.pt .h 0 0)) (.n .e (some (.i .i64 ((j + 1 : Nat) : Int))) .e))) : T D) _
          (repeat' first | exact Rel.e | refine Rel.some ?_ ?_ ?_ | refine Rel.none ?_ ?_ | refine Rel.ee ?_ ?_)
          all_goals show Fz _ _ _ _
          all_goals first | exact .pu trivial | exact .kpt (show _ < 6 by simp [Pos.nat])
        · show Rel _ _ (.n (.n .e (some bz5) .e) (some (bkC n coin box ls [])) (.n (.n .e (some (.cells false ((lnF (a :: s)).map fun d => Cell.o d s.length) (s.length + 1))) .e) (some (outQ n coin box (.sl (.i (.o .h)) 0 (s.length + 1) s.length 3))) .e)) _
          skip
          (repeat' first | exact Rel.e | refine Rel.some ?_ ?_ ?_ | refine Rel.none ?_ ?_ | refine Rel.ee ?_ ?_)
          all_goals first
            | exact RO'.of (show _ < 6 by simp [Pos.nat]) bz5_sh
            | exact RO'.of (show _ < 6 by simp [Pos.nat]) ((ShC.kp (bkC_kp _ _ _ _ _ _)))
            | exact RO'.of (show _ < 6 by simp [Pos.nat]) (outQ_sh (.pu trivial))
            | exact RO'.of (show _ < 6 by simp [Pos.nat]) (outQ_sh (.ksl (show _ < 6 by simp [Pos.nat])))
            | exact RO'.of (show _ < 6 by simp [Pos.nat]) (ShC.same fun c hc => by
                obtain ⟨d, hd, rfl⟩ := List.mem_map.1 hc
                exact .pu (PuL_iff.1 (lnF_pu _) d hd))
  · repeat' first | ((first | with_reducible (first | apply Qt | apply Qu) | refine Qa rfl ?_ | refine Qk rfl ?_ | refine Qb ?_ | refine Qc ?_ | refine Qi ?_ | refine Qj ?_) <;> conv => whnf)
    have he := hend (by omega)
    cases A with
    | nil =>
      repeat' first | ((first | with_reducible (first | apply Qt | apply Qu) | refine Qa rfl ?_ | refine Qk rfl ?_ | refine Qb ?_ | refine Qc ?_ | refine Qi ?_ | refine Qj ?_) <;> conv => whnf)
      refine Rn.rounds (RnR.more ?_); conv => whnf
      repeat' first | ((first | with_reducible (first | apply Qt | apply Qu) | refine Qa rfl ?_ | refine Qk rfl ?_ | refine Qb ?_ | refine Qc ?_ | refine Qi ?_ | refine Qj ?_ | with_reducible (first | refine Qm ?_ | refine Qn ?_ | refine Qo ?_ | refine Qp ?_ | refine WB.nt ?_ | refine WB.nf ?_ | refine WB.dec (fun h => ?_) (fun h => ?_) | refine WB.ndec (fun h => ?_) (fun h => ?_)) | refine WB.mk (fun h => ?_) (fun h => ?_)) <;> conv => whnf)
      refine ⟨.inr rfl, _, rfl, ?_⟩
      rw [← he]
      exact .ag (.cons (.pu trivial) (.cons (.pu trivial) (.cons (.pu trivial) (.cons .ns (.cons .ns .nil)))))
    | cons a s =>
      repeat' first | ((first | with_reducible (first | apply Qt | apply Qu) | refine Qa rfl ?_ | refine Qk rfl ?_ | refine Qb ?_ | refine Qc ?_ | refine Qi ?_ | refine Qj ?_) <;> conv => whnf)
      refine Rn.rounds (RnR.more ?_); conv => whnf
      repeat' first | ((first | with_reducible (first | apply Qt | apply Qu) | refine Qa rfl ?_ | refine Qk rfl ?_ | refine Qb ?_ | refine Qc ?_ | refine Qi ?_ | refine Qj ?_ | with_reducible (first | refine Qm ?_ | refine Qn ?_ | refine Qo ?_ | refine Qp ?_ | refine WB.nt ?_ | refine WB.nf ?_ | refine WB.dec (fun h => ?_) (fun h => ?_) | refine WB.ndec (fun h => ?_) (fun h => ?_)) | refine WB.mk (fun h => ?_) (fun h => ?_)) <;> conv => whnf)
      refine ⟨.inr rfl, _, rfl, ?_⟩
      rw [← he]
      refine .ag (.cons (.pu trivial) (.cons (.pu trivial) (.cons (.pu trivial) (.cons ?_ (.cons .ns .nil)))))
      exact Frz.whole (cs := (lnF (a :: s)).map fun d => Cell.o d s.length) (cur := s.length + 1) rfl (by simp [rows]) (ln_three _) (by rfl) (pu_ln _)
theorem cvn2 {n coin box m : Int} {ls : List Ln} : ∀ γ w, CvL γ γ w [.ag [.i .i64 n, .i .i64 coin, .i .i64 box, .lst 3 (rows lnD ls), .ns], .i .i64 m] [.ag [.i .i64 n, .i .i64 coin, .i .i64 box, .lst 3 (rows lnD ls), .lst 3 (rows ctD [])], .i .i64 m] := fun γ w => .cons (.ag (.cons (.pu (fun _ h => h) trivial) (.cons (.pu (fun _ h => h) trivial) (.cons (.pu (fun _ h => h) trivial) (.cons (.pu (fun _ h => h) (pu_ln _)) (.cons .ns .nil)))))) (.cons (.pu (fun _ h => h) trivial) .nil)
end Go.Ev
namespace Go.Ev
open Go.Proofs
set_option maxRecDepth 100000
theorem befR_drop {A B : List Int} : ∀ j, j < A.length → j < B.length → befR (A.drop j) (B.drop j) = if A.getD j 0 = B.getD j 0 then befR (A.drop (j + 1)) (B.drop (j + 1)) else decide (A.getD j 0 < B.getD j 0) := fun j h1 h2 => by
  rw [List.drop_eq_getElem_cons h1, List.drop_eq_getElem_cons h2]
  simp [befR, List.getD, h1, h2]
theorem befR_end {A B : List Int} {j : Nat} (h : ¬ (j < A.length ∧ j < B.length)) (hA : j ≤ A.length) (hB : j ≤ B.length) : befR (A.drop j) (B.drop j) = decide (A.length < B.length) := by
  by_cases h1 : j < A.length
  · have h2 : ¬ j < B.length := fun k => h ⟨h1, k⟩
    rw [List.drop_eq_getElem_cons h1, List.drop_eq_nil_of_le (show B.length ≤ j by omega), decide_eq_false (by omega)]
    rfl
  · rw [List.drop_eq_nil_of_le (show A.length ≤ j by omega)]
    by_cases h2 : j < B.length
    · rw [List.drop_eq_getElem_cons h2, decide_eq_true (by omega)]
      rfl
    · rw [List.drop_eq_nil_of_le (show B.length ≤ j by omega), decide_eq_false (by omega)]
      rfl
theorem j_Before (A B : List Int) (hA : A.length ≤ 1000) (hB : B.length ≤ 1000) : PureF Try.prog p99.ix [.lst 1 (ints A), .lst 1 (ints B)] (.b (befR A B)) := by
  have e1 := ints_length A
  have e2 := ints_length B
  refine PureF.run fn98 (by simp) (by simp [PuL, PuE, Pu, pu_ints]) ?_; conv => whnf
  repeat' first | ((first | with_reducible (first | apply Qt | apply Qu) | refine Qa rfl ?_ | refine Qk rfl ?_ | refine Qb ?_ | refine Qc ?_ | refine Qi ?_ | refine Qj ?_) <;> conv => whnf)
  refine Rn.loop (fun j : Nat => ⟨(.n (.n .e (some (.lst 1 (ints B))) (.n .e (some (.i .i64 (j : Int))) .e)) (some (.lst 1 (ints A))) .e), .e, .h, none⟩) (fun j => j ≤ A.length ∧ j ≤ B.length ∧ befR (A.drop j) (B.drop j) = befR A B) (fun j => A.length - j) 0 ?_ ?_ ?_
  · (first | (refine X.le.mk ?_ ?_ (Nat.le_refl _) rfl rfl) | skip) <;> (repeat' first | exact T.le_e _ | refine T.le_some ?_ ?_ ?_ | refine T.le_none ?_ ?_ | rfl)
  · exact ⟨Nat.zero_le _, Nat.zero_le _, rfl⟩
  rintro j ⟨hj, hk, ha⟩
  have hj : j ≤ A.length := hj
  have hk : j ≤ B.length := hk
  conv => whnf
  by_cases hlt : j < A.length ∧ j < B.length
  · obtain ⟨h1, h2⟩ := hlt
    have hd := befR_drop (A := A) (B := B) j h1 h2
    by_cases hx : A.getD j 0 = B.getD j 0
    · rw [if_pos hx] at hd
      repeat' first | ((first | with_reducible (first | apply Qt | apply Qu) | refine Qa rfl ?_ | refine Qk rfl ?_ | refine Qb ?_ | refine Qc ?_ | refine Qi ?_ | refine Qj ?_ | refine Qf (e1) ?_ | with_reducible (first | refine Qm ?_ | refine Qn ?_ | refine Qo ?_ | refine Qp ?_ | refine WB.nt ?_ | refine WB.nf ?_ | refine WB.dec (fun h => ?_) (fun h => ?_) | refine WB.ndec (fun h => ?_) (fun h => ?_)) | refine WB.mk (fun h => ?_) (fun h => ?_)) <;> conv => whnf) | (refine WB.tt ?_; conv => whnf) | (refine WB.ff ?_; conv => whnf)
      refine Again.to (j + 1) (by omega) ⟨by omega, by omega, by rw [← hd]; exact ha⟩ (Nat.le_refl _) ?_
      (refine Shr.of ?_ ?_ rfl rfl) <;> (repeat' first | exact Rel.e | refine Rel.some ?_ ?_ ?_ | refine Rel.none ?_ ?_) <;> (try first | (show Fz _ _ _ _; first | exact Fz.pu trivial | (refine Fz.i ?_; first | rfl | omega) | (refine Fz.kpt ?_; (focus (show Pos.nat _ < Pos.nat _; simp [Pos.nat]; done))) | (refine Fz.ksl ?_; (focus (show Pos.nat _ < Pos.nat _; simp [Pos.nat]; done))) | (refine Fz.kmp ?_; (focus (show Pos.nat _ < Pos.nat _; simp [Pos.nat]; done))) | (refine Fz.pu ?_; simp [Cell.d, Pu, PuL, PuE, pu_ints, pu_ln, pu_ct]; done) | (refine Fz.pu ?_; simp only [Cell.d]; assumption)) | (refine RO'.of ?_ (ShC.same ?_); (focus (show Pos.nat _ < Pos.nat _; simp [Pos.nat]; done)); (repeat' first | exact ShC.nl | refine ShC.cn ?_ ?_) <;> first | exact Fz.pu trivial | (refine Fz.i ?_; first | rfl | omega) | (refine Fz.kpt ?_; (focus (show Pos.nat _ < Pos.nat _; simp [Pos.nat]; done))) | (refine Fz.ksl ?_; (focus (show Pos.nat _ < Pos.nat _; simp [Pos.nat]; done))) | (refine Fz.kmp ?_; (focus (show Pos.nat _ < Pos.nat _; simp [Pos.nat]; done))) | (refine Fz.pu ?_; simp [Cell.d, Pu, PuL, PuE, pu_ints, pu_ln, pu_ct]; done) | (refine Fz.pu ?_; simp only [Cell.d]; assumption)))
      all_goals first | (refine Fz.i ?_; omega) | (refine Fz.pu ?_; simp [Pu, pu_ints])
    · rw [if_neg hx] at hd
      repeat' first | ((first | with_reducible (first | apply Qt | apply Qu) | refine Qa rfl ?_ | refine Qk rfl ?_ | refine Qb ?_ | refine Qc ?_ | refine Qi ?_ | refine Qj ?_ | refine Qf (e1) ?_ | with_reducible (first | refine Qm ?_ | refine Qn ?_ | refine Qo ?_ | refine Qp ?_ | refine WB.nt ?_ | refine WB.nf ?_ | refine WB.dec (fun h => ?_) (fun h => ?_) | refine WB.ndec (fun h => ?_) (fun h => ?_)) | refine WB.mk (fun h => ?_) (fun h => ?_)) <;> conv => whnf) | (refine WB.tt ?_; conv => whnf) | (refine WB.ff ?_; conv => whnf)
      exact Fin.b rfl (hd.symm.trans ha)
  · have hd := befR_end hlt hj hk
    rw [← ha, hd]
    by_cases h1 : j < A.length
    · have h2 : ¬ j < B.length := fun k => hlt ⟨h1, k⟩
      repeat' first | ((first | with_reducible (first | apply Qt | apply Qu) | refine Qa rfl ?_ | refine Qk rfl ?_ | refine Qb ?_ | refine Qc ?_ | refine Qi ?_ | refine Qj ?_ | refine Qf (e1) ?_ | with_reducible (first | refine Qm ?_ | refine Qn ?_ | refine Qo ?_ | refine Qp ?_ | refine WB.nt ?_ | refine WB.nf ?_ | refine WB.dec (fun h => ?_) (fun h => ?_) | refine WB.ndec (fun h => ?_) (fun h => ?_)) | refine WB.mk (fun h => ?_) (fun h => ?_)) <;> conv => whnf) | (refine WB.tt ?_; conv => whnf) | (refine WB.ff ?_; conv => whnf)
      exact Fin.b rfl (by congr 1; apply propext; omega)
    · repeat' first | ((first | with_reducible (first | apply Qt | apply Qu) | refine Qa rfl ?_ | refine Qk rfl ?_ | refine Qb ?_ | refine Qc ?_ | refine Qi ?_ | refine Qj ?_ | refine Qf (e1) ?_ | with_reducible (first | refine Qm ?_ | refine Qn ?_ | refine Qo ?_ | refine Qp ?_ | refine WB.nt ?_ | refine WB.nf ?_ | refine WB.dec (fun h => ?_) (fun h => ?_) | refine WB.ndec (fun h => ?_) (fun h => ?_)) | refine WB.mk (fun h => ?_) (fun h => ?_)) <;> conv => whnf) | (refine WB.tt ?_; conv => whnf) | (refine WB.ff ?_; conv => whnf)
      exact Fin.b rfl (by congr 1; apply propext; omega)
theorem j_Shorter (A B : List Int) (hA : A.length ≤ 1000) (hB : B.length ≤ 1000) : PureF Try.prog p67.ix [.lst 1 (ints A), .lst 1 (ints B)] (.b (shoR A B)) := by
  have e1 := ints_length A
  have e2 := ints_length B
  have cB := j_Before A B hA hB
  unfold shoR
  refine PureF.run fn66 (by simp) (by simp [PuL, PuE, Pu, pu_ints]) ?_; conv => whnf
  by_cases h1 : A.length < B.length
  · rw [decide_eq_true h1, Bool.true_or]
    repeat' first | ((first | with_reducible (first | apply Qt | apply Qu) | refine Qa rfl ?_ | refine Qk rfl ?_ | refine Qb ?_ | refine Qc ?_ | refine Qi ?_ | refine Qj ?_ | refine Qf (cB) ?_ | with_reducible (first | refine Qm ?_ | refine Qn ?_ | refine Qo ?_ | refine Qp ?_ | refine WB.nt ?_ | refine WB.nf ?_ | refine WB.dec (fun h => ?_) (fun h => ?_) | refine WB.ndec (fun h => ?_) (fun h => ?_)) | refine WB.mk (fun h => ?_) (fun h => ?_)) <;> conv => whnf) | (refine WB.tt ?_; conv => whnf) | (refine WB.ff ?_; conv => whnf)
    exact Fin.b rfl rfl
  · rw [decide_eq_false h1, Bool.false_or]
    by_cases h2 : A.length = B.length
    · rw [decide_eq_true h2, Bool.true_and]
      repeat' first | ((first | with_reducible (first | apply Qt | apply Qu) | refine Qa rfl ?_ | refine Qk rfl ?_ | refine Qb ?_ | refine Qc ?_ | refine Qi ?_ | refine Qj ?_ | refine Qf (cB) ?_ | with_reducible (first | refine Qm ?_ | refine Qn ?_ | refine Qo ?_ | refine Qp ?_ | refine WB.nt ?_ | refine WB.nf ?_ | refine WB.dec (fun h => ?_) (fun h => ?_) | refine WB.ndec (fun h => ?_) (fun h => ?_)) | refine WB.mk (fun h => ?_) (fun h => ?_)) <;> conv => whnf) | (refine WB.tt ?_; conv => whnf) | (refine WB.ff ?_; conv => whnf)
      exact Fin.b rfl rfl
    · rw [decide_eq_false h2, Bool.false_and]
      repeat' first | ((first | with_reducible (first | apply Qt | apply Qu) | refine Qa rfl ?_ | refine Qk rfl ?_ | refine Qb ?_ | refine Qc ?_ | refine Qi ?_ | refine Qj ?_ | refine Qf (cB) ?_ | with_reducible (first | refine Qm ?_ | refine Qn ?_ | refine Qo ?_ | refine Qp ?_ | refine WB.nt ?_ | refine WB.nf ?_ | refine WB.dec (fun h => ?_) (fun h => ?_) | refine WB.ndec (fun h => ?_) (fun h => ?_)) | refine WB.mk (fun h => ?_) (fun h => ?_)) <;> conv => whnf) | (refine WB.tt ?_; conv => whnf) | (refine WB.ff ?_; conv => whnf)
      exact Fin.b rfl rfl
theorem bitJ_succ (b j : Nat) : bitJ b (j + 1) = if b / 2 ^ j % 2 = 1 then bitJ b j ++ [(j : Int)] else bitJ b j := by
  unfold bitJ
  rw [List.range_succ, List.filter_append, List.map_append]
  have e : b.testBit j = decide (b / 2 ^ j % 2 = 1) := Nat.testBit_eq_decide_div_mod_eq
  by_cases h : b / 2 ^ j % 2 = 1
  · rw [if_pos h]
    simp [e, h]
  · rw [if_neg h]
    simp [e, h]
theorem bitJ_end {b j : Nat} (hj : j ≤ 8) (h : b / 2 ^ j = 0) : bitJ b j = bitL b := by
  have hb : b < 2 ^ j := by
    have := Nat.div_eq_zero_iff.1 h
    rcases this with h | h
    · exact absurd h (by have := Nat.one_le_two_pow (n := j); omega)
    · exact h
  unfold bitL
  have key : ∀ d, j + d ≤ 8 → bitJ b (j + d) = bitJ b j := fun d => by
    induction d with
    | zero => exact fun _ => rfl
    | succ d ih =>
      intro hd
      rw [← Nat.add_assoc, bitJ_succ, ih (by omega)]
      have hz : b / 2 ^ (j + d) = 0 := Nat.div_eq_of_lt (Nat.lt_of_lt_of_le hb (Nat.pow_le_pow_right (by omega) (by omega)))
      rw [hz, if_neg (by decide)]
  have := key (8 - j) (by omega)
  rw [show j + (8 - j) = 8 by omega] at this
  exact this.symm
theorem bitJ_len (b j : Nat) : (bitJ b j).length ≤ j := by
  unfold bitJ
  rw [List.length_map]
  have := List.length_filter_le (fun p => b.testBit p) (List.range j)
  rw [List.length_range] at this
  exact this
def biS (b : Nat) (A : List Int) (j : Nat) : X := ⟨(.n (.n (.n .e (some (slE A)) .e) none .e) (some (.i .i64 (b : Int))) (.n (.n .e (some (.i .i64 (j : Int))) .e) none .e)), .n (.n .e (blE A) .e) none .e, nxE A, none⟩
theorem j_Bits (b : Nat) (hb : b ≤ 255) : PureF Try.prog p68.ix [.i .i64 (b : Int)] (.lst 1 (ints (bitL b))) := by
  refine PureF.run fn67 (by simp) (by simp [PuL, PuE, Pu]) ?_; conv => whnf
  repeat' first | ((first | with_reducible (first | apply Qt | apply Qu) | refine Qa rfl ?_ | refine Qk rfl ?_ | refine Qb ?_ | refine Qc ?_ | refine Qi ?_ | refine Qj ?_) <;> conv => whnf)
  refine Rn.loop (fun j : Nat => biS b (bitJ b j) j) (fun j => j ≤ 8 ∧ True) (fun j => 8 - j) 0 ?_ ?_ ?_
  · refine X.le.mk ?_ ?_ (Nat.le_refl _) rfl rfl
    · show T.le ((.n (.n (.n .e (some (.ns)) .e) none .e) (some (.i .i64 (b : Int))) (.n (.n .e (some (.i .i64 ((0 : Nat) : Int))) .e) none .e)) : T D) _
      (repeat' first | exact T.le_e _ | refine T.le_some ?_ rfl ?_ | refine T.le_none ?_ ?_)
    · show T.le (.n (.n .e none .e) none .e) _
      (repeat' first | exact T.le_e _ | refine T.le_some ?_ rfl ?_ | refine T.le_none ?_ ?_ | refine T.le_ee ?_ ?_)
  · exact ⟨Nat.zero_le _, trivial⟩
  rintro j ⟨hj, _⟩
  have hsc := bitJ_succ b j
  have hAl := bitJ_len b j
  have hdl : b / 2 ^ j ≤ 255 := Nat.le_trans (Nat.div_le_self _ _) hb
  have hend : b / 2 ^ j = 0 → bitJ b j = bitL b := fun h => bitJ_end hj h
  have h10 : 0 < b / 2 ^ j → j < 8 := fun h => by
    rcases Nat.lt_or_ge j 8 with h2 | h2
    · exact h2
    · have e : j = 8 := by omega
      subst e
      rw [Nat.div_eq_of_lt (show b < 2 ^ 8 by omega)] at h
      omega
  generalize hA : bitJ b j = A at *
  conv => whnf
  repeat' first | ((first | with_reducible (first | apply Qt | apply Qu) | refine Qa rfl ?_ | refine Qk rfl ?_ | refine Qb ?_ | refine Qc ?_ | refine Qi ?_ | refine Qj ?_) <;> conv => whnf)
  refine And.intro (InR.u64 (by omega) (by omega)) ?_; conv => whnf
  repeat' first | ((first | with_reducible (first | apply Qt | apply Qu) | refine Qa rfl ?_ | refine Qk rfl ?_ | refine Qb ?_ | refine Qc ?_ | refine Qi ?_ | refine Qj ?_) <;> conv => whnf)
  refine WSt.shrN (a := b) (by rfl) (by rfl) (by omega) (by omega) ?_; conv => whnf
  repeat' first | ((first | with_reducible (first | apply Qt | apply Qu) | refine Qa rfl ?_ | refine Qk rfl ?_ | refine Qb ?_ | refine Qc ?_ | refine Qi ?_ | refine Qj ?_) <;> conv => whnf)
  refine WB.dec (fun h => ?_) (fun h => ?_) <;> conv => whnf
  · have hpos : 0 < b / 2 ^ j := by omega
    have hlt := h10 hpos
    repeat' first | ((first | with_reducible (first | apply Qt | apply Qu) | refine Qa rfl ?_ | refine Qk rfl ?_ | refine Qb ?_ | refine Qc ?_ | refine Qi ?_ | refine Qj ?_) <;> conv => whnf)
    refine And.intro (InR.u64 (by omega) (by omega)) ?_; conv => whnf
    repeat' first | ((first | with_reducible (first | apply Qt | apply Qu) | refine Qa rfl ?_ | refine Qk rfl ?_ | refine Qb ?_ | refine Qc ?_ | refine Qi ?_ | refine Qj ?_) <;> conv => whnf)
    refine WSt.shrN (a := b) (by rfl) (by rfl) (by omega) (by omega) ?_; conv => whnf
    have hrem : ((b / 2 ^ j : Nat) : Int).tmod 2 = ((b / 2 ^ j % 2 : Nat) : Int) := by
      rw [Int.tmod_eq_emod_of_nonneg (by omega)]
      rfl
    repeat' first | ((first | with_reducible (first | apply Qt | apply Qu) | refine Qa rfl ?_ | refine Qk rfl ?_ | refine Qb ?_ | refine Qc ?_ | refine Qi ?_ | refine Qj ?_) <;> conv => whnf)
    rw [hrem]
    by_cases hx : b / 2 ^ j % 2 = 1
    · rw [if_pos hx] at hsc
      refine WB.decT (by omega) ?_; conv => whnf
      cases A with
      | nil =>
        repeat' first | ((first | with_reducible (first | apply Qt | apply Qu) | refine Qa rfl ?_ | refine Qk rfl ?_ | refine Qb ?_ | refine Qc ?_ | refine Qi ?_ | refine Qj ?_) <;> conv => whnf)
        refine WSt.app_first (r := [_]) rfl (.inl rfl) rfl rfl rfl rfl ?_; conv => whnf
        repeat' first | ((first | with_reducible (first | apply Qt | apply Qu) | refine Qa rfl ?_ | refine Qk rfl ?_ | refine Qb ?_ | refine Qc ?_ | refine Qi ?_ | refine Qj ?_) <;> conv => whnf)
        refine Again.to (j + 1) (by omega) ⟨by omega, trivial⟩ (by show (nxE (bitJ b j)).nat ≤ (nxE (bitJ b (j + 1))).nat; rw [hA, hsc]; exact (show 1 ≤ 3 by omega)) ?_
        show Shr _ (biS b (bitJ b (j + 1)) (j + 1))
        rw [hsc]
        refine Shr.of ?_ ?_ rfl rfl
        · show Rel _ _ ((.n (.n (.n .e (some ((.sl (.o .h) 0 1 0 1))) .e) none .e) (some (.i .i64 (b : Int))) (.n (.n .e (some (.i .i64 ((j + 1 : Nat) : Int))) .e) none .e)) : T D) _
          skip
          (repeat' first | exact Rel.e | refine Rel.some ?_ ?_ ?_ | refine Rel.none ?_ ?_ | refine Rel.ee ?_ ?_)
          all_goals show Fz _ _ _ _
          all_goals first | exact .pu trivial | exact .ksl (show _ < 3 by simp [Pos.nat])
        · show Rel _ _ (.n (.n .e (some (C.cells false ((nD [(j : Int)]).map fun d => Cell.o d 0) 1)) .e) none .e) _
          skip
          (repeat' first | exact Rel.e | refine Rel.some ?_ ?_ ?_ | refine Rel.none ?_ ?_ | refine Rel.ee ?_ ?_)
          exact RO'.of (show _ < 3 by simp [Pos.nat]) (ShC.same (ShC.cn (.pu trivial) ShC.nl))
      | cons a s =>
        have hs5 : s.length + 1 ≤ 8 := Nat.le_trans hAl hj
        repeat' first | ((first | with_reducible (first | apply Qt | apply Qu) | refine Qa rfl ?_ | refine Qk rfl ?_ | refine Qb ?_ | refine Qc ?_ | refine Qi ?_ | refine Qj ?_) <;> conv => whnf)
        refine WSt.app_one (ds := nD (a :: s)) (r := [_]) rfl rfl rfl rfl rfl rfl (by simp [nD]) rfl rfl (by omega) rfl ?_; conv => whnf
        repeat' first | ((first | with_reducible (first | apply Qt | apply Qu) | refine Qa rfl ?_ | refine Qk rfl ?_ | refine Qb ?_ | refine Qc ?_ | refine Qi ?_ | refine Qj ?_) <;> conv => whnf)
        refine Again.to (j + 1) (by omega) ⟨by omega, trivial⟩ (by show (nxE (bitJ b j)).nat ≤ (nxE (bitJ b (j + 1))).nat; rw [hA, hsc, List.cons_append]; exact (show 3 ≤ 3 by omega)) ?_
        show Shr _ (biS b (bitJ b (j + 1)) (j + 1))
        rw [hsc, List.cons_append]
        refine Shr.of ?_ ?_ rfl rfl
        · show Rel _ _ ((.n (.n (.n .e (some ((slE (a :: (s ++ [(j : Int)]))))) .e) none .e) (some (.i .i64 (b : Int))) (.n (.n .e (some (.i .i64 ((j + 1 : Nat) : Int))) .e) none .e)) : T D) _
          rw [slE_snoc]
          (repeat' first | exact Rel.e | refine Rel.some ?_ ?_ ?_ | refine Rel.none ?_ ?_ | refine Rel.ee ?_ ?_)
          all_goals show Fz _ _ _ _
          all_goals first | exact .pu trivial | exact .ksl (show _ < 3 by simp [Pos.nat])
        · show Rel _ _ (.n (.n .e (blE (a :: (s ++ [(j : Int)]))) .e) none .e) _
          rw [blE_snoc]
          (repeat' first | exact Rel.e | refine Rel.some ?_ ?_ ?_ | refine Rel.none ?_ ?_ | refine Rel.ee ?_ ?_)
          exact RO'.of (show _ < 3 by simp [Pos.nat]) (ShC.grown (by omega) (PuL_iff.2 fun d hd => by
            rcases List.mem_append.1 hd with hd | hd
            · exact PuL_iff.1 (pu_nD _) d hd
            · simp at hd; subst hd; exact trivial))
    · rw [if_neg hx] at hsc
      refine WB.decF (by omega) ?_; conv => whnf
      cases A with
      | nil =>
        repeat' first | ((first | with_reducible (first | apply Qt | apply Qu) | refine Qa rfl ?_ | refine Qk rfl ?_ | refine Qb ?_ | refine Qc ?_ | refine Qi ?_ | refine Qj ?_) <;> conv => whnf)
        refine Again.to (j + 1) (by omega) ⟨by omega, trivial⟩ (by show (nxE (bitJ b j)).nat ≤ (nxE (bitJ b (j + 1))).nat; rw [hA, hsc]; exact (show 1 ≤ 1 by omega)) ?_
        show Shr _ (biS b (bitJ b (j + 1)) (j + 1))
        rw [hsc]
        refine Shr.of ?_ ?_ rfl rfl
        · show Rel _ _ ((.n (.n (.n .e (some (.ns)) .e) none .e) (some (.i .i64 (b : Int))) (.n (.n .e (some (.i .i64 ((j + 1 : Nat) : Int))) .e) none .e)) : T D) _
          skip
          (repeat' first | exact Rel.e | refine Rel.some ?_ ?_ ?_ | refine Rel.none ?_ ?_ | refine Rel.ee ?_ ?_)
          all_goals show Fz _ _ _ _
          all_goals first | exact .pu trivial | exact .ksl (show _ < 3 by simp [Pos.nat])
        · show Rel _ _ (.n (.n .e none .e) none .e) _
          skip
          (repeat' first | exact Rel.e | refine Rel.some ?_ ?_ ?_ | refine Rel.none ?_ ?_ | refine Rel.ee ?_ ?_)
          skip
      | cons a s =>
        repeat' first | ((first | with_reducible (first | apply Qt | apply Qu) | refine Qa rfl ?_ | refine Qk rfl ?_ | refine Qb ?_ | refine Qc ?_ | refine Qi ?_ | refine Qj ?_) <;> conv => whnf)
        refine Again.to (j + 1) (by omega) ⟨by omega, trivial⟩ (by show (nxE (bitJ b j)).nat ≤ (nxE (bitJ b (j + 1))).nat; rw [hA, hsc]; exact (show 3 ≤ 3 by omega)) ?_
        show Shr _ (biS b (bitJ b (j + 1)) (j + 1))
        rw [hsc]
        refine Shr.of ?_ ?_ rfl rfl
        · show Rel _ _ ((.n (.n (.n .e (some ((.sl (.o .h) 0 (s.length + 1) s.length 1))) .e) none .e) (some (.i .i64 (b : Int))) (.n (.n .e (some (.i .i64 ((j + 1 : Nat) : Int))) .e) none .e)) : T D) _
          skip
          (repeat' first | exact Rel.e | refine Rel.some ?_ ?_ ?_ | refine Rel.none ?_ ?_ | refine Rel.ee ?_ ?_)
          all_goals show Fz _ _ _ _
          all_goals first | exact .pu trivial | exact .ksl (show _ < 3 by simp [Pos.nat])
        · show Rel _ _ (.n (.n .e (some (C.cells false ((nD (a :: s)).map fun d => Cell.o d s.length) (s.length + 1))) .e) none .e) _
          skip
          (repeat' first | exact Rel.e | refine Rel.some ?_ ?_ ?_ | refine Rel.none ?_ ?_ | refine Rel.ee ?_ ?_)
          exact RO'.of (show _ < 3 by simp [Pos.nat]) (ShC.same fun c hc => by
            obtain ⟨d, hd, rfl⟩ := List.mem_map.1 hc
            exact .pu (PuL_iff.1 (pu_nD _) d hd))
  · have hq : b / 2 ^ j = 0 := by
      have h2 : ¬ ((0 : Int) < ((b / 2 ^ j : Nat) : Int)) := h
      revert h2
      generalize b / 2 ^ j = q
      intro h2
      omega
    have he := hend hq
    rw [← he]
    cases A with
    | nil =>
      repeat' first | ((first | with_reducible (first | apply Qt | apply Qu) | refine Qa rfl ?_ | refine Qk rfl ?_ | refine Qb ?_ | refine Qc ?_ | refine Qi ?_ | refine Qj ?_) <;> conv => whnf)
      exact Fin.t (.inr rfl) rfl .ns
    | cons a s =>
      repeat' first | ((first | with_reducible (first | apply Qt | apply Qu) | refine Qa rfl ?_ | refine Qk rfl ?_ | refine Qb ?_ | refine Qc ?_ | refine Qi ?_ | refine Qj ?_) <;> conv => whnf)
      exact Fin.t (.inr rfl) rfl (Frz.whole (cs := (nD (a :: s)).map fun d => Cell.o d s.length) (cur := s.length + 1) rfl (by rw [ints_length]; rfl) (ints_one _) (by rw [ints_flatten]; rfl) (pu_ints _))
theorem j_Full (n coin box : Int) (ls : List Ln) (cs : List Ct) (hl : ls.length ≤ 8) : PureF Try.prog p66.ix [.ag [.i .i64 n, .i .i64 coin, .i .i64 box, .lst 3 (rows lnD ls), .lst 3 (rows ctD cs)]] (.i .i64 ((2 ^ ls.length - 1 : Nat) : Int)) := by
  have e2 := rows_length lnD ls
  have hpow : 2 ^ ls.length ≤ 256 := show 2 ^ ls.length ≤ 2 ^ 8 from Nat.pow_le_pow_right (by omega) hl
  have hpos : 0 < 2 ^ ls.length := Nat.two_pow_pos _
  refine PureF.run fn65 (by simp) (by simp [PuL, PuE, Pu, pu_ints, pu_ln, pu_ct]) ?_; conv => whnf
  repeat' first | ((first | with_reducible (first | apply Qt | apply Qu) | refine Qa rfl ?_ | refine Qk rfl ?_ | refine Qb ?_ | refine Qc ?_ | refine Qi ?_ | refine Qj ?_) <;> conv => whnf)
  refine And.intro (InR.u64 (by omega) (by omega)) ?_; conv => whnf
  refine WSt.shlU (a := 1) (j := (rows lnD ls).length) (by rfl) (by rfl) (by rw [e2]; omega) (by omega) ?_; conv => whnf
  repeat' first | ((first | with_reducible (first | apply Qt | apply Qu) | refine Qa rfl ?_ | refine Qk rfl ?_ | refine Qb ?_ | refine Qc ?_ | refine Qi ?_ | refine Qj ?_) <;> conv => whnf)
  rw [e2, Nat.one_mul]
  repeat' first | ((first | with_reducible (first | apply Qt | apply Qu) | refine Qa rfl ?_ | refine Qk rfl ?_ | refine Qb ?_ | refine Qc ?_ | refine Qi ?_ | refine Qj ?_ | with_reducible (first | refine Qm ?_ | refine Qn ?_ | refine Qo ?_ | refine Qp ?_ | refine WB.nt ?_ | refine WB.nf ?_ | refine WB.dec (fun h => ?_) (fun h => ?_) | refine WB.ndec (fun h => ?_) (fun h => ?_)) | refine WB.mk (fun h => ?_) (fun h => ?_)) <;> conv => whnf)
  exact Fin.i rfl (by omega)
set_option maxHeartbeats 1000000 in
theorem j_Can (n coin box : Int) (ls : List Ln) (cs : List Ct) (V : VB (B5 n coin box ls cs)) : PureF Try.prog p96.ix [.ag [.i .i64 n, .i .i64 coin, .i .i64 box, .lst 3 (rows lnD ls), .lst 3 (rows ctD cs)]] (.b (hasB (B5 n coin box ls cs))) := by
  have hl8 : ls.length ≤ 8 := V.len
  have hMl : (allN3 n ls).length = (manyR n ls).toNat := by unfold allN3; rw [List.length_map, List.length_range]
  have hn : 1 ≤ n ∧ n ≤ 4 := V.n
  have hM0 : 0 ≤ manyR n ls := by
    have := many_prod hn.1 hn.2 ls
    omega
  have hM4 : manyR n ls ≤ 4096 := V.many
  have cM := j_Many n coin box ls cs hn (by omega) V.ls
  unfold bk5 at cM
  have hT : refT (B5 n coin box ls cs) = (allN3 n ls).filter (tBad box coin cs) := rfl
  have hY : ∀ j, j < (allN3 n ls).length → tBad box coin cs (nthL n ls j) = true → hasB (B5 n coin box ls cs) = true := fun j h1 h2 => by
    rw [hasB_nil V, hT]
    intro h
    have : nthL n ls j ∈ (allN3 n ls).filter (tBad box coin cs) := List.mem_filter.2 ⟨by rw [← allN3_at (by omega)]; exact getD_mem h1, h2⟩
    rw [h] at this; cases this
  have hNo : (∀ j, j < (allN3 n ls).length → tBad box coin cs (nthL n ls j) = false) → hasB (B5 n coin box ls cs) = false := fun h => by
    cases hb : hasB (B5 n coin box ls cs) with
    | false => rfl
    | true =>
      rw [hasB_nil V, hT] at hb
      exfalso
      apply hb
      rw [List.filter_eq_nil_iff]
      intro x hx
      obtain ⟨j, hj, e⟩ := List.getElem_of_mem hx
      have e : (allN3 n ls).getD j [] = x := by simp [List.getD, hj, e]
      rw [← e, allN3_at (by omega), h j hj]
      decide
  generalize hasB (B5 n coin box ls cs) = R at *
  refine PureF.run fn95 (by simp) (by simp [PuL, PuE, Pu, pu_ints, pu_ln, pu_ct]) ?_; conv => whnf
  repeat' first | ((first | with_reducible (first | apply Qt | apply Qu) | refine Qa rfl ?_ | refine Qk rfl ?_ | refine Qb ?_ | refine Qc ?_ | refine Qi ?_ | refine Qj ?_) <;> conv => whnf)
  refine Rn.loop (fun j : Nat => ⟨(.n (.n (.n .e (some (.i .i64 (j : Int))) .e) (some (.pt .h 0 0)) .e) none .e), (.n .e (some (bkC n coin box ls cs)) .e), .o .h, none⟩) (fun j => j ≤ (allN3 n ls).length ∧ ∀ i, i < j → tBad box coin cs (nthL n ls i) = false) (fun j => (allN3 n ls).length - j) 0 ?_ ?_ ?_
  · refine X.le.mk ?_ ?_ (Nat.le_refl _) rfl rfl
    all_goals (repeat' first | exact T.le_e _ | refine T.le_some ?_ rfl ?_ | refine T.le_none ?_ ?_)
  · exact ⟨Nat.zero_le _, fun i h => absurd h (Nat.not_lt_zero _)⟩
  rintro j ⟨hj, ha⟩
  have hj : j ≤ (allN3 n ls).length := hj
  conv => whnf
  repeat' first | ((first | with_reducible (first | apply Qt | apply Qu) | refine Qa rfl ?_ | refine Qk rfl ?_ | refine Qb ?_ | refine Qc ?_ | refine Qi ?_ | refine Qj ?_ | refine Qf (cM) ?_) <;> conv => whnf)
  refine WB.dec (fun h => ?_) (fun h => ?_) <;> conv => whnf
  · have hlt : j < (allN3 n ls).length := by omega
    have cN := j_Nth n coin box ls cs j V (by omega)
    unfold bk5 at cN
    have hxl := nthF_len n ls j ls.length
    have hY := hY j hlt
    have hx : nthL n ls j = nthF n ls j ls.length := rfl
    rw [← hx] at hxl
    have hag : tBad box coin cs (nthL n ls j) = false → ∀ i, i < j + 1 → tBad box coin cs (nthL n ls i) = false := fun h i hi => by
      by_cases e : i = j
      · rw [e]; exact h
      · exact ha i (by omega)
    generalize nthL n ls j = x at *
    have cP := j_IsPossible x (by omega)
    have cC := j_Counted n coin box ls cs x V.box V.coin (by omega) (by have : cs.length ≤ 4 := V.clen; omega) (fun c h => by rw [hxl]; exact V.cs c h)
    unfold bk5 at cC
    have hbad : tBad box coin cs x = (possB x && cntB box coin cs x) := rfl
    rw [hbad] at hY hag
    cases hp : possB x with
    | false =>
      rw [hp] at cP hag
      repeat' first | ((first | with_reducible (first | apply Qt | apply Qu) | refine Qa rfl ?_ | refine Qk rfl ?_ | refine Qb ?_ | refine Qc ?_ | refine Qi ?_ | refine Qj ?_ | refine Qf (cN) ?_ | refine Qf (cP) ?_ | with_reducible (first | refine Qm ?_ | refine Qn ?_ | refine Qo ?_ | refine Qp ?_ | refine WB.nt ?_ | refine WB.nf ?_ | refine WB.dec (fun h => ?_) (fun h => ?_) | refine WB.ndec (fun h => ?_) (fun h => ?_)) | refine WB.mk (fun h => ?_) (fun h => ?_)) <;> conv => whnf) | (refine WB.tt ?_; conv => whnf) | (refine WB.ff ?_; conv => whnf)
      refine Again.to (j + 1) (by omega) ⟨by omega, hag rfl⟩ (Nat.le_refl _) ?_
      refine Shr.of ?_ ?_ rfl rfl
      all_goals (repeat' first | exact Rel.e | refine Rel.some ?_ ?_ ?_ | refine Rel.none ?_ ?_ | refine Rel.ee ?_ ?_)
      all_goals first | exact RO'.of (show _ < 2 by simp [Pos.nat]) (ShC.kp (bkC_kp _ _ _ _ _ _)) | (show Fz _ _ _ _; first | exact .pu trivial | exact .kpt (show _ < 2 by simp [Pos.nat]))
    | true =>
    rw [hp] at cP hY hag
    cases hc : cntB box coin cs x with
    | false =>
      rw [hc] at cC hag
      repeat' first | ((first | with_reducible (first | apply Qt | apply Qu) | refine Qa rfl ?_ | refine Qk rfl ?_ | refine Qb ?_ | refine Qc ?_ | refine Qi ?_ | refine Qj ?_ | refine Qf (cN) ?_ | refine Qf (cP) ?_ | refine Qf (cC) ?_ | with_reducible (first | refine Qm ?_ | refine Qn ?_ | refine Qo ?_ | refine Qp ?_ | refine WB.nt ?_ | refine WB.nf ?_ | refine WB.dec (fun h => ?_) (fun h => ?_) | refine WB.ndec (fun h => ?_) (fun h => ?_)) | refine WB.mk (fun h => ?_) (fun h => ?_)) <;> conv => whnf) | (refine WB.tt ?_; conv => whnf) | (refine WB.ff ?_; conv => whnf)
      refine Again.to (j + 1) (by omega) ⟨by omega, hag rfl⟩ (Nat.le_refl _) ?_
      refine Shr.of ?_ ?_ rfl rfl
      all_goals (repeat' first | exact Rel.e | refine Rel.some ?_ ?_ ?_ | refine Rel.none ?_ ?_ | refine Rel.ee ?_ ?_)
      all_goals first | exact RO'.of (show _ < 2 by simp [Pos.nat]) (ShC.kp (bkC_kp _ _ _ _ _ _)) | (show Fz _ _ _ _; first | exact .pu trivial | exact .kpt (show _ < 2 by simp [Pos.nat]))
    | true =>
      rw [hc] at cC hY
      rw [hY rfl]
      repeat' first | ((first | with_reducible (first | apply Qt | apply Qu) | refine Qa rfl ?_ | refine Qk rfl ?_ | refine Qb ?_ | refine Qc ?_ | refine Qi ?_ | refine Qj ?_ | refine Qf (cN) ?_ | refine Qf (cP) ?_ | refine Qf (cC) ?_ | with_reducible (first | refine Qm ?_ | refine Qn ?_ | refine Qo ?_ | refine Qp ?_ | refine WB.nt ?_ | refine WB.nf ?_ | refine WB.dec (fun h => ?_) (fun h => ?_) | refine WB.ndec (fun h => ?_) (fun h => ?_)) | refine WB.mk (fun h => ?_) (fun h => ?_)) <;> conv => whnf) | (refine WB.tt ?_; conv => whnf) | (refine WB.ff ?_; conv => whnf)
      exact Fin.b rfl rfl
  · rw [hNo fun i hi => ha i (by omega)]
    repeat' first | ((first | with_reducible (first | apply Qt | apply Qu) | refine Qa rfl ?_ | refine Qk rfl ?_ | refine Qb ?_ | refine Qc ?_ | refine Qi ?_ | refine Qj ?_ | refine Qf (cM) ?_ | with_reducible (first | refine Qm ?_ | refine Qn ?_ | refine Qo ?_ | refine Qp ?_ | refine WB.nt ?_ | refine WB.nf ?_ | refine WB.dec (fun h => ?_) (fun h => ?_) | refine WB.ndec (fun h => ?_) (fun h => ?_)) | refine WB.mk (fun h => ?_) (fun h => ?_)) <;> conv => whnf) | (refine WB.tt ?_; conv => whnf) | (refine WB.ff ?_; conv => whnf)
    exact Fin.b rfl rfl
end Go.Ev