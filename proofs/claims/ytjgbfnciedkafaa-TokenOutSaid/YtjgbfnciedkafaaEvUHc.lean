import Derived.Test.YtjgbfnciedkafaaEvUHb
import Derived.Test.YtjgbfnciedkafaaEvUGc
set_option linter.all false
namespace Go.Ev
open Go.Proofs
set_option maxRecDepth 100000
def tlD (X : List Ln) : List D := [.lst 3 (rows lnD X)]
def tlDs (L : List (List Ln)) : List D := L.map fun x => D.lst 3 (rows lnD x)
theorem pu_tl (L : List (List Ln)) : PuE (rows tlD L) := pu_rows (fun x => by simp [tlD, PuL, Pu, pu_ln]) L
theorem pu_tlDs (L : List (List Ln)) : PuL (tlDs L) := PuL_iff.2 fun d hd => by
  obtain ⟨x, _, rfl⟩ := List.mem_map.1 hd
  exact pu_ln x
theorem tl_one (L : List (List Ln)) : ∀ r ∈ rows tlD L, r.length = 1 := fun r hr => by
  obtain ⟨x, _, rfl⟩ := List.mem_map.1 hr; rfl
theorem tl_flat (L : List (List Ln)) : (rows tlD L).flatten = tlDs L := by
  induction L with
  | nil => rfl
  | cons a L ih => simp only [rows, tlDs, List.map_cons, List.flatten_cons] at *; rw [ih]; rfl
def slT3 : List (List Ln) → D
  | [] => .ns
  | _ :: s => .sl (.i .h) 0 (s.length + 1) s.length 1
def blT3 : List (List Ln) → Option C
  | [] => none
  | a :: s => some (.cells false ((tlDs (a :: s)).map fun d => Cell.o d s.length) (s.length + 1))
def nxT3 : List (List Ln) → Pos
  | [] => .o .h
  | _ :: _ => .o (.o .h)
theorem slT3_kp (A : List (List Ln)) : Kp (nxT3 A).nat (slT3 A) := by
  cases A <;> simp [slT3, nxT3, Kp, Pos.nat, Pu]
theorem nxT3_two (A : List (List Ln)) : 2 ≤ (nxT3 A).nat := by cases A <;> simp [nxT3, Pos.nat]
theorem nxT3_up (A A' : List (List Ln)) : (nxT3 A).nat ≤ (nxT3 (A ++ A')).nat := by
  cases A with
  | nil => cases A' <;> simp [nxT3, Pos.nat]
  | cons a A => simp [nxT3]
theorem tlDs_kp (n st : Nat) (L : List (List Ln)) : ∀ c ∈ (tlDs L).map (fun d => Cell.o d st), Kp n c.d := fun c hc => by
  obtain ⟨d, hd, rfl⟩ := List.mem_map.1 hc
  obtain ⟨x, _, rfl⟩ := List.mem_map.1 hd
  simp [Kp, Pu, Cell.d, pu_ln]
theorem blT3_snoc (a : List Ln) (s : List (List Ln)) (x : List Ln) : blT3 (a :: (s ++ [x])) = some (.cells false ((tlDs (a :: s) ++ [D.lst 3 (rows lnD x)]).map fun d => Cell.o d (s.length + 1)) (s.length + 1 + 1)) := by
  simp [blT3, tlDs]
theorem slT3_snoc (a : List Ln) (s : List (List Ln)) (x : List Ln) : slT3 (a :: (s ++ [x])) = .sl (.i .h) 0 (s.length + 1 + 1) (s.length + 1) 1 := by
  simp [slT3]
theorem allN3_at {n : Int} {ls : List Ln} {j : Nat} (h : j < (manyR n ls).toNat) : (allN3 n ls).getD j [] = nthL n ls j := by
  simp [allN3, List.getD, h]
section
variable (n coin box : Int) (ls : List Ln) (cs : List Ct)
noncomputable def ttS (A : List (List Ln)) (j : Nat) : X := ⟨(.n (.n (.n .e (some (slT3 A)) .e) (some (.pt .h 0 0)) .e) none (.n (.n .e (some (.i .i64 (j : Int))) .e) none .e)), .n .e (some (bkC n coin box ls cs)) (.n .e (blT3 A) .e), nxT3 A, none⟩
theorem ttS_kp (A : List (List Ln)) (j : Nat) : ∀ s d, (ttS n coin box ls cs A j).sl.get s = some d → Kp (nxT3 A).nat d := by
  have h2 := nxT3_two A
  show TAll (fun _ d => Kp (nxT3 A).nat d) _
  unfold ttS
  repeat' first | exact TAll.e | refine TAll.some ?_ ?_ ?_ | refine TAll.none ?_ ?_
  all_goals first | exact slT3_kp A | (simp [Kp, Pu, Pos.nat]; done) | (simp [Kp, Pos.nat]; omega)
theorem ttO_kp (A : List (List Ln)) (j : Nat) : KpO (nxT3 A).nat (ttS n coin box ls cs A j).ob := by
  cases A with
  | nil =>
    show TAll (fun id c => id.nat < 2 ∧ KpC 2 c) _
    unfold ttS blT3
    exact TAll.some TAll.e ⟨by simp [Pos.nat], bkC_kp _ _ _ _ _ _⟩ (TAll.none TAll.e TAll.e)
  | cons a s =>
    show TAll (fun id c => id.nat < 4 ∧ KpC 4 c) _
    unfold ttS blT3
    refine TAll.some TAll.e ⟨by simp [Pos.nat], bkC_kp _ _ _ _ _ _⟩ (TAll.some TAll.e ⟨by simp [Pos.nat], tlDs_kp _ _ _⟩ TAll.e)
end
set_option maxHeartbeats 2000000 in
theorem j_Truths (n coin box : Int) (ls : List Ln) (cs : List Ct) (V : VB (B5 n coin box ls cs)) : PureF Try.prog p61.ix [.ag (bk5 n coin box ls cs)] (.lst 1 (rows tlD (refT (B5 n coin box ls cs)))) := by
  have hal : (allN3 n ls).length ≤ 4096 := allN3_len V
  have hl8 : ls.length ≤ 8 := V.len
  have hMl : (allN3 n ls).length = (manyR n ls).toNat := by unfold allN3; rw [List.length_map, List.length_range]
  have hn : 1 ≤ n ∧ n ≤ 4 := V.n
  have hM0 : 0 ≤ manyR n ls := by
    have := many_prod hn.1 hn.2 ls
    omega
  have hM4 : manyR n ls ≤ 4096 := V.many
  have cM := j_Many n coin box ls cs hn (by omega) V.ls
  refine PureF.run fn60 (by simp) (by simp [PuL, PuE, Pu, bk5, pu_ln, pu_ct]) ?_; conv => whnf
  repeat' first | ((first | with_reducible apply WB.tt | with_reducible apply WB.ff | refine Rn.seq ?_ | refine Rn.reg ?_ | refine Rn.drw ?_ | refine Rn.blk ?_ | refine Rn.skip ?_ | refine Rn.ret ?_ | refine Rn.exit ?_ | refine Rn.cond rfl ?_ | refine And.intro (InR.i64 (by omega) (by omega)) ?_ | refine And.intro (show _ ≠ (0 : Int) by omega) ?_ | refine WIx.intsN (by omega) ?_ | refine WIx.rowsN (by omega) ?_) <;> conv => whnf)
  refine Rn.loop (fun j : Nat => ttS n coin box ls cs (((allN3 n ls).take j).filter (tBad box coin cs)) j) (fun j => j ≤ (allN3 n ls).length) (fun j => (allN3 n ls).length - j) 0 ?_ ?_ ?_
  · refine X.le.mk ?_ (T.le_some (T.le_e _) rfl (T.le_ee (T.le_e _) (T.le_e _))) (Nat.le_refl _) rfl rfl
    show T.le ((.n (.n (.n .e (some (.ns)) .e) (some (.pt .h 0 0)) .e) none (.n (.n .e (some (.i .i64 (0 : Int))) .e) none .e)) : T D) _
    (repeat' first | exact T.le_e _ | refine T.le_some ?_ rfl ?_ | refine T.le_none ?_ ?_)
  · exact Nat.zero_le _
  intro j hj
  have hj : j ≤ (allN3 n ls).length := hj
  have hAl : (((allN3 n ls).take j).filter (tBad box coin cs)).length ≤ 4096 := by
    have h1 := List.length_filter_le (tBad box coin cs) ((allN3 n ls).take j)
    rw [List.length_take] at h1
    omega
  have hend : j = (allN3 n ls).length → ((allN3 n ls).take j).filter (tBad box coin cs) = refT (B5 n coin box ls cs) := fun e => by rw [e, List.take_length]; rfl
  have hnext := fun h => filter_take_succ (p := tBad box coin cs) (l := allN3 n ls) (j := j) (d := []) h
  generalize hA : ((allN3 n ls).take j).filter (tBad box coin cs) = A at *
  conv => whnf
  repeat' first | ((first | with_reducible apply WB.tt | with_reducible apply WB.ff | refine Rn.seq ?_ | refine Rn.reg ?_ | refine Rn.drw ?_ | refine Rn.blk ?_ | refine Rn.skip ?_ | refine Rn.ret ?_ | refine Rn.exit ?_ | refine Rn.cond rfl ?_ | refine And.intro (InR.i64 (by omega) (by omega)) ?_ | refine And.intro (show _ ≠ (0 : Int) by omega) ?_ | refine WIx.intsN (by omega) ?_ | refine WIx.rowsN (by omega) ?_ | refine WCall.pure (cM) ?_) <;> conv => whnf)
  refine WB.dec (fun h => ?_) (fun h => ?_) <;> conv => whnf
  · have hlt : j < (allN3 n ls).length := by omega
    have hnext := hnext (by omega)
    have hup := nxT3_up A
    have cN := j_Nth n coin box ls cs j V (by omega)
    have hxl := nthF_len n ls j ls.length
    rw [allN3_at (by omega)] at hnext
    have hx : nthL n ls j = nthF n ls j ls.length := rfl
    rw [← hx] at hxl
    generalize nthL n ls j = x at *
    have cP := j_IsPossible x (by omega)
    have cC := j_Counted n coin box ls cs x V.box V.coin (by omega) (by have : cs.length ≤ 4 := V.clen; omega) (fun c h => by rw [hxl]; exact V.cs c h)
    have hbad : tBad box coin cs x = (possB x && cntB box coin cs x) := rfl
    have hno : tBad box coin cs x = false → ((allN3 n ls).take (j + 1)).filter (tBad box coin cs) = A := fun hf => by rw [hnext, hf, cond_false, List.append_nil]
    repeat' first | ((first | with_reducible apply WB.tt | with_reducible apply WB.ff | refine Rn.seq ?_ | refine Rn.reg ?_ | refine Rn.drw ?_ | refine Rn.blk ?_ | refine Rn.skip ?_ | refine Rn.ret ?_ | refine Rn.exit ?_ | refine Rn.cond rfl ?_ | refine And.intro (InR.i64 (by omega) (by omega)) ?_ | refine And.intro (show _ ≠ (0 : Int) by omega) ?_ | refine WIx.intsN (by omega) ?_ | refine WIx.rowsN (by omega) ?_ | refine WCall.pure (cN) ?_) <;> conv => whnf)
    cases hp : possB x with
    | false =>
      rw [hp] at cP
      have hno := hno (by rw [hbad, hp]; rfl)
      repeat' first | ((first | with_reducible apply WB.tt | with_reducible apply WB.ff | refine Rn.seq ?_ | refine Rn.reg ?_ | refine Rn.drw ?_ | refine Rn.blk ?_ | refine Rn.skip ?_ | refine Rn.ret ?_ | refine Rn.exit ?_ | refine Rn.cond rfl ?_ | refine And.intro (InR.i64 (by omega) (by omega)) ?_ | refine And.intro (show _ ≠ (0 : Int) by omega) ?_ | refine WIx.intsN (by omega) ?_ | refine WIx.rowsN (by omega) ?_ | refine WCall.pure (cP) ?_) <;> conv => whnf)
      refine Again.to (j + 1) (by omega) (by omega) ?_ ?_
      · show (nxT3 (((allN3 n ls).take j).filter (tBad box coin cs))).nat ≤ (nxT3 (((allN3 n ls).take (j + 1)).filter (tBad box coin cs))).nat
        rw [hA, hno]; exact Nat.le_refl _
      · show Shr _ (ttS n coin box ls cs (((allN3 n ls).take (j + 1)).filter (tBad box coin cs)) (j + 1))
        rw [hno]
        refine Shr.kp2 ?_ (ttS_kp n coin box ls cs _ _) (T.le_refl _) (ttO_kp n coin box ls cs A (j + 1))
        show T.le ((.n (.n (.n .e (some (slT3 A)) .e) (some (.pt .h 0 0)) .e) none (.n (.n .e (some (.i .i64 ((j + 1 : Nat) : Int))) .e) none .e)) : T D) _
        (repeat' first | exact T.le_e _ | refine T.le_some ?_ rfl ?_ | refine T.le_none ?_ ?_)
    | true =>
    rw [hp] at cP
    cases hc : cntB box coin cs x with
    | false =>
      rw [hc] at cC
      have hno := hno (by rw [hbad, hp, hc]; rfl)
      repeat' first | ((first | with_reducible apply WB.tt | with_reducible apply WB.ff | refine Rn.seq ?_ | refine Rn.reg ?_ | refine Rn.drw ?_ | refine Rn.blk ?_ | refine Rn.skip ?_ | refine Rn.ret ?_ | refine Rn.exit ?_ | refine Rn.cond rfl ?_ | refine And.intro (InR.i64 (by omega) (by omega)) ?_ | refine And.intro (show _ ≠ (0 : Int) by omega) ?_ | refine WIx.intsN (by omega) ?_ | refine WIx.rowsN (by omega) ?_ | refine WCall.pure (cP) ?_ | refine WCall.pure (cC) ?_) <;> conv => whnf)
      refine Again.to (j + 1) (by omega) (by omega) ?_ ?_
      · show (nxT3 (((allN3 n ls).take j).filter (tBad box coin cs))).nat ≤ (nxT3 (((allN3 n ls).take (j + 1)).filter (tBad box coin cs))).nat
        rw [hA, hno]; exact Nat.le_refl _
      · show Shr _ (ttS n coin box ls cs (((allN3 n ls).take (j + 1)).filter (tBad box coin cs)) (j + 1))
        rw [hno]
        refine Shr.kp2 ?_ (ttS_kp n coin box ls cs _ _) (T.le_refl _) (ttO_kp n coin box ls cs A (j + 1))
        show T.le ((.n (.n (.n .e (some (slT3 A)) .e) (some (.pt .h 0 0)) .e) none (.n (.n .e (some (.i .i64 ((j + 1 : Nat) : Int))) .e) none .e)) : T D) _
        (repeat' first | exact T.le_e _ | refine T.le_some ?_ rfl ?_ | refine T.le_none ?_ ?_)
    | true =>
    rw [hc] at cC
    have hf : tBad box coin cs x = true := by rw [hbad, hp, hc]; rfl
    rw [hf, cond_true] at hnext
    cases A with
    | nil =>
      repeat' first | ((first | with_reducible apply WB.tt | with_reducible apply WB.ff | refine Rn.seq ?_ | refine Rn.reg ?_ | refine Rn.drw ?_ | refine Rn.blk ?_ | refine Rn.skip ?_ | refine Rn.ret ?_ | refine Rn.exit ?_ | refine Rn.cond rfl ?_ | refine And.intro (InR.i64 (by omega) (by omega)) ?_ | refine And.intro (show _ ≠ (0 : Int) by omega) ?_ | refine WIx.intsN (by omega) ?_ | refine WIx.rowsN (by omega) ?_ | refine WCall.pure (cP) ?_ | refine WCall.pure (cC) ?_) <;> conv => whnf)
      refine WSt.app_first (r := [_]) rfl (.inl rfl) rfl rfl rfl rfl ?_; conv => whnf
      repeat' first | ((first | with_reducible apply WB.tt | with_reducible apply WB.ff | refine Rn.seq ?_ | refine Rn.reg ?_ | refine Rn.drw ?_ | refine Rn.blk ?_ | refine Rn.skip ?_ | refine Rn.ret ?_ | refine Rn.exit ?_ | refine Rn.cond rfl ?_ | refine And.intro (InR.i64 (by omega) (by omega)) ?_ | refine And.intro (show _ ≠ (0 : Int) by omega) ?_ | refine WIx.intsN (by omega) ?_ | refine WIx.rowsN (by omega) ?_) <;> conv => whnf)
      refine Again.to (j + 1) (by omega) (by omega) ?_ ?_
      · show (nxT3 (((allN3 n ls).take j).filter (tBad box coin cs))).nat ≤ (nxT3 (((allN3 n ls).take (j + 1)).filter (tBad box coin cs))).nat
        rw [hA, hnext]; exact hup _
      · show Shr _ (ttS n coin box ls cs (((allN3 n ls).take (j + 1)).filter (tBad box coin cs)) (j + 1))
        rw [hnext]
        refine Shr.kp2 ?_ (ttS_kp n coin box ls cs _ _) ?_ (ttO_kp n coin box ls cs [x] (j + 1))
        · show T.le ((.n (.n (.n .e (some (.sl (.i .h) 0 1 0 1)) .e) (some (.pt .h 0 0)) .e) none (.n (.n .e (some (.i .i64 ((j + 1 : Nat) : Int))) .e) none .e)) : T D) _
          (repeat' first | exact T.le_e _ | refine T.le_some ?_ rfl ?_ | refine T.le_none ?_ ?_)
        · show T.le (T.n .e (some (bkC n coin box ls cs)) (.n .e (some (.cells false [.o (.lst 3 (rows lnD x)) 0] 1)) .e)) _
          (repeat' first | exact T.le_e _ | refine T.le_some ?_ rfl ?_ | refine T.le_none ?_ ?_)
    | cons a s =>
      repeat' first | ((first | with_reducible apply WB.tt | with_reducible apply WB.ff | refine Rn.seq ?_ | refine Rn.reg ?_ | refine Rn.drw ?_ | refine Rn.blk ?_ | refine Rn.skip ?_ | refine Rn.ret ?_ | refine Rn.exit ?_ | refine Rn.cond rfl ?_ | refine And.intro (InR.i64 (by omega) (by omega)) ?_ | refine And.intro (show _ ≠ (0 : Int) by omega) ?_ | refine WIx.intsN (by omega) ?_ | refine WIx.rowsN (by omega) ?_ | refine WCall.pure (cP) ?_ | refine WCall.pure (cC) ?_) <;> conv => whnf)
      refine WSt.app_one (ds := tlDs (a :: s)) (r := [_]) rfl rfl rfl rfl rfl rfl (by simp [tlDs]) rfl rfl (by simp at hAl; omega) rfl ?_; conv => whnf
      repeat' first | ((first | with_reducible apply WB.tt | with_reducible apply WB.ff | refine Rn.seq ?_ | refine Rn.reg ?_ | refine Rn.drw ?_ | refine Rn.blk ?_ | refine Rn.skip ?_ | refine Rn.ret ?_ | refine Rn.exit ?_ | refine Rn.cond rfl ?_ | refine And.intro (InR.i64 (by omega) (by omega)) ?_ | refine And.intro (show _ ≠ (0 : Int) by omega) ?_ | refine WIx.intsN (by omega) ?_ | refine WIx.rowsN (by omega) ?_) <;> conv => whnf)
      refine Again.to (j + 1) (by omega) (by omega) ?_ ?_
      · show (nxT3 (((allN3 n ls).take j).filter (tBad box coin cs))).nat ≤ (nxT3 (((allN3 n ls).take (j + 1)).filter (tBad box coin cs))).nat
        rw [hA, hnext]; exact hup _
      · show Shr _ (ttS n coin box ls cs (((allN3 n ls).take (j + 1)).filter (tBad box coin cs)) (j + 1))
        rw [hnext, List.cons_append]
        refine Shr.of ?_ ?_ rfl rfl
        · show Rel _ _ ((.n (.n (.n .e (some (slT3 (a :: (s ++ [x])))) .e) (some (.pt .h 0 0)) .e) none (.n (.n .e (some (.i .i64 ((j + 1 : Nat) : Int))) .e) none .e)) : T D) _
          rw [slT3_snoc]
          (repeat' first | exact Rel.e | refine Rel.some ?_ ?_ ?_ | refine Rel.none ?_ ?_)
          all_goals show Fz _ _ _ _
          all_goals first | exact .pu trivial | exact .ksl (show _ < 4 by simp [Pos.nat]) | exact .kpt (show _ < 4 by simp [Pos.nat])
        · show Rel _ _ (T.n .e (some (bkC n coin box ls cs)) (.n .e (blT3 (a :: (s ++ [x]))) .e)) _
          rw [blT3_snoc]
          (repeat' first | exact Rel.e | refine Rel.some ?_ ?_ ?_ | refine Rel.none ?_ ?_)
          · exact RO'.of (show _ < 4 by simp [Pos.nat]) (ShC.kp (bkC_kp _ _ _ _ _ _))
          · refine RO'.of (show _ < 4 by simp [Pos.nat]) ?_
            exact ShC.grownF (by omega) (pu_tlDs _) (.pu (pu_ln _))
  · repeat' first | ((first | with_reducible apply WB.tt | with_reducible apply WB.ff | refine Rn.seq ?_ | refine Rn.reg ?_ | refine Rn.drw ?_ | refine Rn.blk ?_ | refine Rn.skip ?_ | refine Rn.ret ?_ | refine Rn.exit ?_ | refine Rn.cond rfl ?_ | refine And.intro (InR.i64 (by omega) (by omega)) ?_ | refine And.intro (show _ ≠ (0 : Int) by omega) ?_ | refine WIx.intsN (by omega) ?_ | refine WIx.rowsN (by omega) ?_) <;> conv => whnf)
    have he := hend (by omega)
    subst he
    refine Fin.t (.inr rfl) rfl ?_
    cases hT : refT (B5 n coin box ls cs) with
    | nil => exact .ns
    | cons a s =>
      exact Frz.whole (cs := (tlDs (a :: s)).map fun d => Cell.o d s.length) (cur := s.length + 1) rfl (by simp [rows]) (tl_one _) (by rw [tl_flat]) (pu_tl _)
theorem hasB_nil {B : Bk} (V : VB B) : hasB B = true ↔ refT B ≠ [] := by
  unfold hasB
  rw [can_iff]
  constructor
  · rintro ⟨X, h⟩ he
    have := (refT_ext V).2 (mem_exT.2 h)
    rw [he] at this; cases this
  · intro h
    obtain ⟨X, s, hs⟩ := List.exists_cons_of_ne_nil h
    have : X ∈ refT B := by rw [hs]; exact List.mem_cons_self
    exact ⟨X, mem_exT.1 ((refT_ext V).1 this)⟩
def surD (n coin box : Int) (ls : List Ln) (cs : List Ct) : D := if sE n coin box ls cs true = 0 then .tp [.lst 1 (rows tlD (refT (B5 n coin box ls cs))), .i .i64 0] else .tp [.lst 1 [], .i .i64 (sE n coin box ls cs true)]
theorem j_sure (n coin box : Int) (ls : List Ln) (cs : List Ct) : PureF Try.prog p35.ix [.ag (bk5 n coin box ls cs)] (surD n coin box ls cs) := by
  have cF := j_Fault n coin box ls cs
  have cf : PureF Try.prog p27.ix [.ag (bk5 n coin box ls cs)] (.i .i64 (faultT n coin box ls cs)) := by
    refine PureF.run fn26 (by simp) (by simp [PuL, Pu, bk5, pu_ln, pu_ct]) ?_; conv => whnf
    repeat' first | ((first | with_reducible apply WB.tt | with_reducible apply WB.ff | refine Rn.seq ?_ | refine Rn.reg ?_ | refine Rn.drw ?_ | refine Rn.blk ?_ | refine Rn.skip ?_ | refine Rn.ret ?_ | refine Rn.exit ?_ | refine Rn.cond rfl ?_ | refine And.intro (InR.i64 (by omega) (by omega)) ?_ | refine And.intro (show _ ≠ (0 : Int) by omega) ?_ | refine WIx.intsN (by omega) ?_ | refine WIx.rowsN (by omega) ?_ | refine WCall.pure (cF) ?_) <;> conv => whnf)
    exact Fin.i rfl rfl
  by_cases hf : faultT n coin box ls cs ≠ 0
  · have hs : sE n coin box ls cs true = faultT n coin box ls cs := by unfold sE; rw [if_pos hf]
    unfold surD
    rw [hs, if_neg hf]
    generalize faultT n coin box ls cs = f at *
    refine PureF.run fn34 (by simp) (by simp [PuL, Pu, bk5, pu_ln, pu_ct]) ?_; conv => whnf
    repeat' first | ((first | with_reducible apply WB.tt | with_reducible apply WB.ff | refine Rn.seq ?_ | refine Rn.reg ?_ | refine Rn.drw ?_ | refine Rn.blk ?_ | refine Rn.skip ?_ | refine Rn.ret ?_ | refine Rn.exit ?_ | refine Rn.cond rfl ?_ | refine And.intro (InR.i64 (by omega) (by omega)) ?_ | refine And.intro (show _ ≠ (0 : Int) by omega) ?_ | refine WIx.intsN (by omega) ?_ | refine WIx.rowsN (by omega) ?_ | refine WCall.pure (cf) ?_ | with_reducible refine WB.decT (by first | with_reducible rfl | assumption | omega | exact ⟨rfl, rfl⟩) ?_ | with_reducible refine WB.decF (by first | assumption | omega) ?_ | with_reducible refine WB.ndT (by first | with_reducible rfl | assumption | omega | exact ⟨rfl, rfl⟩) ?_ | with_reducible refine WB.ndF (by first | assumption | omega) ?_ | with_reducible refine WB.nt ?_ | with_reducible refine WB.nf ?_ | with_reducible refine WB.dec (fun h => ?_) (fun h => ?_) | with_reducible refine WB.ndec (fun h => ?_) (fun h => ?_) | refine WB.mk (fun h => ?_) (fun h => ?_)) <;> conv => whnf)
    all_goals first | (exfalso; omega) | exact ⟨.inr rfl, _, rfl, .tp (.cons .ns (.cons (.pu trivial) .nil))⟩
  · have hf : faultT n coin box ls cs = 0 := by omega
    have V := VB.of hf
    have cT := j_Truths n coin box ls cs V
    have hh := hasB_nil V
    have hs : sE n coin box ls cs true = bif !hasB (B5 n coin box ls cs) then 11 else 0 := by unfold sE; rw [if_neg (fun h => h hf)]; rfl
    rw [hf] at cf
    unfold surD
    rw [hs]
    cases hT : refT (B5 n coin box ls cs) with
    | nil =>
      have hb : hasB (B5 n coin box ls cs) = false := by
        cases hb : hasB (B5 n coin box ls cs) with
        | false => rfl
        | true => exact absurd hT (hh.1 hb)
      rw [hT] at cT
      rw [hb]
      refine PureF.run fn34 (by simp) (by simp [PuL, Pu, bk5, pu_ln, pu_ct]) ?_; conv => whnf
      repeat' first | ((first | with_reducible apply WB.tt | with_reducible apply WB.ff | refine Rn.seq ?_ | refine Rn.reg ?_ | refine Rn.drw ?_ | refine Rn.blk ?_ | refine Rn.skip ?_ | refine Rn.ret ?_ | refine Rn.exit ?_ | refine Rn.cond rfl ?_ | refine And.intro (InR.i64 (by omega) (by omega)) ?_ | refine And.intro (show _ ≠ (0 : Int) by omega) ?_ | refine WIx.intsN (by omega) ?_ | refine WIx.rowsN (by omega) ?_ | refine WCall.pure (cf) ?_ | refine WCall.pure (cT) ?_ | with_reducible refine WB.decT (by first | with_reducible rfl | assumption | omega | exact ⟨rfl, rfl⟩) ?_ | with_reducible refine WB.decF (by first | assumption | omega) ?_ | with_reducible refine WB.ndT (by first | with_reducible rfl | assumption | omega | exact ⟨rfl, rfl⟩) ?_ | with_reducible refine WB.ndF (by first | assumption | omega) ?_ | with_reducible refine WB.nt ?_ | with_reducible refine WB.nf ?_ | with_reducible refine WB.dec (fun h => ?_) (fun h => ?_) | with_reducible refine WB.ndec (fun h => ?_) (fun h => ?_) | refine WB.mk (fun h => ?_) (fun h => ?_)) <;> conv => whnf)
      all_goals first | (exfalso; omega) | exact ⟨.inr rfl, _, rfl, .tp (.cons .ns (.cons (.pu trivial) .nil))⟩ | skip
      exact absurd rfl (by assumption)
    | cons a s =>
      have hb : hasB (B5 n coin box ls cs) = true := hh.2 (by rw [hT]; exact List.cons_ne_nil _ _)
      rw [hT] at cT
      rw [hb]
      have e3 : (rows tlD (a :: s)).length = s.length + 1 := rows_length tlD (a :: s)
      refine PureF.run fn34 (by simp) (by simp [PuL, Pu, bk5, pu_ln, pu_ct]) ?_; conv => whnf
      repeat' first | ((first | with_reducible apply WB.tt | with_reducible apply WB.ff | refine Rn.seq ?_ | refine Rn.reg ?_ | refine Rn.drw ?_ | refine Rn.blk ?_ | refine Rn.skip ?_ | refine Rn.ret ?_ | refine Rn.exit ?_ | refine Rn.cond rfl ?_ | refine And.intro (InR.i64 (by omega) (by omega)) ?_ | refine And.intro (show _ ≠ (0 : Int) by omega) ?_ | refine WIx.intsN (by omega) ?_ | refine WIx.rowsN (by omega) ?_ | refine WCall.pure (cf) ?_ | refine WCall.pure (cT) ?_ | with_reducible refine WB.decT (by first | with_reducible rfl | assumption | omega | exact ⟨rfl, rfl⟩) ?_ | with_reducible refine WB.decF (by first | assumption | omega) ?_ | with_reducible refine WB.ndT (by first | with_reducible rfl | assumption | omega | exact ⟨rfl, rfl⟩) ?_ | with_reducible refine WB.ndF (by first | assumption | omega) ?_ | with_reducible refine WB.nt ?_ | with_reducible refine WB.nf ?_ | with_reducible refine WB.dec (fun h => ?_) (fun h => ?_) | with_reducible refine WB.ndec (fun h => ?_) (fun h => ?_) | refine WB.mk (fun h => ?_) (fun h => ?_)) <;> conv => whnf)
      all_goals first | (exfalso; omega) | exact ⟨.inr rfl, _, rfl, .tp (.cons (.pu (pu_tl _)) (.cons (.pu trivial) .nil))⟩ | skip
end Go.Ev

namespace Go.Ev
open Go.Proofs
set_option maxRecDepth 100000
theorem foldl_minJ : ∀ (L : List Int) (a : Int), L.foldl min a ≤ a ∧ (∀ x ∈ L, L.foldl min a ≤ x) ∧ (L.foldl min a = a ∨ L.foldl min a ∈ L)
  | [], a => ⟨Int.le_refl _, fun x h => absurd h (by simp), .inl rfl⟩
  | y :: L, a => by
    obtain ⟨h1, h2, h3⟩ := foldl_minJ L (min a y)
    refine ⟨by show L.foldl min (min a y) ≤ a; omega, fun x hx => ?_, ?_⟩
    · show L.foldl min (min a y) ≤ x
      rcases List.mem_cons.1 hx with rfl | hx
      · omega
      · exact h2 x hx
    · show L.foldl min (min a y) = a ∨ L.foldl min (min a y) ∈ y :: L
      rcases h3 with h3 | h3
      · by_cases h : a ≤ y
        · left; omega
        · right; rw [h3, show min a y = y by omega]; exact List.mem_cons_self
      · exact .inr (List.mem_cons_of_mem _ h3)
theorem foldl_maxJ : ∀ (L : List Int) (a : Int), a ≤ L.foldl max a ∧ (∀ x ∈ L, x ≤ L.foldl max a) ∧ (L.foldl max a = a ∨ L.foldl max a ∈ L)
  | [], a => ⟨Int.le_refl _, fun x h => absurd h (by simp), .inl rfl⟩
  | y :: L, a => by
    obtain ⟨h1, h2, h3⟩ := foldl_maxJ L (max a y)
    refine ⟨by show a ≤ L.foldl max (max a y); omega, fun x hx => ?_, ?_⟩
    · show x ≤ L.foldl max (max a y)
      rcases List.mem_cons.1 hx with rfl | hx
      · omega
      · exact h2 x hx
    · show L.foldl max (max a y) = a ∨ L.foldl max (max a y) ∈ y :: L
      rcases h3 with h3 | h3
      · by_cases h : y ≤ a
        · left; omega
        · right; rw [h3, show max a y = y by omega]; exact List.mem_cons_self
      · exact .inr (List.mem_cons_of_mem _ h3)
theorem getD0_mem {A : List Int} (h : A ≠ []) : A.getD 0 0 ∈ A := getD_mem (by cases A with | nil => exact absurd rfl h | cons a s => simp)
theorem mem_ans {B : Bk} (V : VB B) {aft : Nat} {ak : Mo → Int} {g : List Ln → Int} (hg : ∀ X, ak (moR B.box B.coin X aft) = g X) (x : Int) : x ∈ ansL B aft ak ↔ x ∈ (refT B).map g := by
  unfold ansL
  rw [List.mem_map, List.mem_map]
  constructor
  · rintro ⟨X, h, rfl⟩
    exact ⟨X, (refT_ext V).2 h, (hg X).symm⟩
  · rintro ⟨X, h, rfl⟩
    exact ⟨X, (refT_ext V).1 h, hg X⟩
theorem ans_ne {B : Bk} {aft : Nat} {ak : Mo → Int} (h : exT B B.ls.length [] ≠ []) : ansL B aft ak ≠ [] := by
  unfold ansL
  intro he
  exact h (List.map_eq_nil_iff.1 he)
end Go.Ev

namespace Go.Ev
open Go.Proofs
set_option maxRecDepth 100000
theorem Fz.whole {B : Pos → Prop} {ob : T C} {id : Pos} {z st : Nat} {cs : List Cell} {cur : Nat} {es : List (List D)} {n : Nat} (hB : ¬ B id) (h : ob.get id = some (.cells false cs cur)) (hn : n = es.length) (hz : ∀ r ∈ es, r.length = z) (hc : cs = es.flatten.map fun d => Cell.o d st) (hp : PuE es) : Fz B ob (.sl id 0 n st z) (.lst z es) := by
  subst hc
  refine .sl hB h hn.symm hz (fun k d hk => ⟨.o d st, ?_, ?_, rfl⟩) (FzE.of hp)
  · rw [List.drop_zero, List.getElem?_map, hk]; rfl
  · show Nat.ble st st = true
    exact Nat.ble_eq_true_of_le (Nat.le_refl _)
def outA (B : Bk) (aft x : Nat) : List Int := ansL B aft fun m => min (m.h x) 1
def vdO (B : Bk) (aft x : Nat) : Int := vdT ((outA B aft x).foldl min ((outA B aft x).getD 0 0)) ((outA B aft x).foldl max ((outA B aft x).getD 0 0))
def vdL (B : Bk) (aft fst : Nat) : List Int := (List.range B.n.toNat).map fun i => vdO B aft (fst + i)
theorem vdL_len (B : Bk) (aft fst : Nat) : (vdL B aft fst).length = B.n.toNat := by simp [vdL]
theorem vdL_at {B : Bk} {aft fst j : Nat} (h : j < B.n.toNat) : (vdL B aft fst).getD j 0 = vdO B aft (fst + j) := by simp [vdL, List.getD, h]
theorem fold01 {L : List Int} (hne : L ≠ []) (h : ∀ x ∈ L, 0 ≤ x ∧ x ≤ 1) : (0 ≤ L.foldl min (L.getD 0 0) ∧ L.foldl min (L.getD 0 0) ≤ 1) ∧ (0 ≤ L.foldl max (L.getD 0 0) ∧ L.foldl max (L.getD 0 0) ≤ 1) := by
  have h0 : L.getD 0 0 ∈ L := by
    cases L with
    | nil => exact absurd rfl hne
    | cons a l => simp
  constructor
  · rcases foldmin_mem (L := L) (a := L.getD 0 0) with e | e
    · rw [e]; exact h _ h0
    · exact h _ e
  · rcases foldmax_mem (L := L) (a := L.getD 0 0) with e | e
    · rw [e]; exact h _ h0
    · exact h _ e
theorem outA_01 {B : Bk} {aft x : Nat} : ∀ y ∈ outA B aft x, 0 ≤ y ∧ y ≤ 1 := fun y hy => by
  obtain ⟨X, _, rfl⟩ := List.mem_map.1 hy
  have g1 := cOut_bd X (x : Int) aft
  have g2 := tOut_bd X ((x - 4 : Nat) : Int) aft
  have : 0 ≤ (moR B.box B.coin X aft).h x := by
    show 0 ≤ (if x < 4 then cOut X (x : Int) aft + 1 else tOut X ((x - 4 : Nat) : Int) aft + 1)
    split <;> omega
  show 0 ≤ min ((moR B.box B.coin X aft).h x) 1 ∧ min ((moR B.box B.coin X aft).h x) 1 ≤ 1
  omega
theorem j_verd {B : Bk} {aft x : Nat} (hne : exT B B.ls.length [] ≠ []) : PureF Try.prog p118.ix [lohi (outA B aft x)] (.i .i64 (vdO B aft x)) := by
  have hA : outA B aft x ≠ [] := fun e => hne (List.map_eq_nil_iff.1 e)
  obtain ⟨⟨a1, a2⟩, ⟨b1, b2⟩⟩ := fold01 hA outA_01
  exact j_verdict _ _ (wf_small (by omega) (by omega)) (wf_small (by omega) (by omega))
set_option maxHeartbeats 1000000 in
theorem j_verdicts {B : Bk} (V : VB B) {aft fst : Nat} (ha : aft ≤ B.ls.length) (hf : fst ≤ 4) (hne : exT B B.ls.length [] ≠ []) (M : Memo) (hM : MOk B M) :
    ∃ M', MOk B M' ∧ CallOk Try.prog p87.ix [.ag (wkQ B ++ [.mp .h]), .i .i64 (aft : Int), .i .i64 (fst : Int)] (mapP M) (.o .h) none (.lst 1 (ints (vdL B aft fst))) (mapP M') (.o .h) none := by
  have hn := V.n
  obtain ⟨v, ob', ⟨M', hM', rfl, rfl⟩, Hb⟩ := CallOk.runE (Φ := fun v ob' => ∃ M', MOk B M' ∧ v = .lst 1 (ints (vdL B aft fst)) ∧ ob' = mapP M') (ob := mapP M) (nx := .o .h) (nx' := .o .h) (ds := [.ag (wkQ B ++ [.mp .h]), .i .i64 (aft : Int), .i .i64 (fst : Int)]) fn86 (by simp) (Nat.le_refl _) (by
    unfold wkQ
    conv => whnf
    repeat' first | ((first | with_reducible apply WB.tt | with_reducible apply WB.ff | refine Rn.seq ?_ | refine Rn.reg ?_ | refine Rn.drw ?_ | refine Rn.blk ?_ | refine Rn.skip ?_ | refine Rn.ret ?_ | refine Rn.exit ?_ | refine Rn.cond rfl ?_ | refine And.intro (InR.i64 (by omega) (by omega)) ?_ | refine And.intro (show _ ≠ (0 : Int) by omega) ?_ | refine WIx.intsN (by omega) ?_ | refine WIx.rowsN (by omega) ?_) <;> conv => whnf)
    refine Rn.loop (fun (t : Nat × Memo) => match t with
      | (0, M) => ⟨(.n (.n (.n (.n .e (some (.ns)) .e) (some (.pt (.o .h) 0 0)) .e) (some (.i .i64 (aft : Int))) (.n .e none (.n .e (some (.i .i64 0)) .e))) none (.n (.n .e none (.n .e (some (.i .i64 B.n)) .e)) (some (.i .i64 (fst : Int))) .e)), (.n (.n .e (some (wkCl B)) .e) (some (.map (mapL M))) .e), .i .h, none⟩
      | (j + 1, M) => ⟨(.n (.n (.n (.n .e (some (.sl (.o (.o .h)) 0 (j + 1) j 1)) .e) (some (.pt (.o .h) 0 0)) .e) (some (.i .i64 (aft : Int))) (.n .e none (.n .e (some (.i .i64 ((j + 1 : Nat) : Int))) .e))) none (.n (.n .e none (.n .e (some (.i .i64 B.n)) .e)) (some (.i .i64 (fst : Int))) .e)), (.n (.n (.n .e (some (.cells false ((((vdL B aft fst).take (j + 1)).map fun n => D.i .i64 n).map fun d => Cell.o d j) (j + 1))) .e) (some (wkCl B)) .e) (some (.map (mapL M))) .e), .i (.o .h), none⟩) (fun t => t.1 ≤ B.n.toNat ∧ MOk B t.2) (fun t => B.n.toNat - t.1) (0, M) ?_ ?_ ?_
    · refine X.le.mk ?_ ?_ (Nat.le_refl _) rfl rfl <;> (repeat' first | exact T.le_e _ | refine T.le_some ?_ rfl ?_ | refine T.le_none ?_ ?_)
    · exact ⟨Nat.zero_le _, hM⟩
    rintro ⟨_ | j, M⟩ ⟨hj, hM⟩
    · have hM : MOk B M := hM
      obtain ⟨M', hM', Hb⟩ := j_bounds V (ask_isOut B (fst + 0) (by omega)) ha hne M hM
      have cV := j_verd (aft := aft) (x := fst + 0) hne
      rw [show ((fst + 0 : Nat) : Int) = (fst : Int) + 0 by omega] at Hb
      conv => whnf
      repeat' first | ((first | with_reducible apply WB.tt | with_reducible apply WB.ff | refine Rn.seq ?_ | refine Rn.reg ?_ | refine Rn.drw ?_ | refine Rn.blk ?_ | refine Rn.skip ?_ | refine Rn.ret ?_ | refine Rn.exit ?_ | refine Rn.cond rfl ?_ | refine And.intro (InR.i64 (by omega) (by omega)) ?_ | refine And.intro (show _ ≠ (0 : Int) by omega) ?_ | refine WIx.intsN (by omega) ?_ | refine WIx.rowsN (by omega) ?_ | with_reducible refine WB.decT (by first | with_reducible rfl | assumption | omega | exact ⟨rfl, rfl⟩) ?_ | with_reducible refine WB.decF (by first | assumption | omega) ?_ | with_reducible refine WB.ndT (by first | with_reducible rfl | assumption | omega | exact ⟨rfl, rfl⟩) ?_ | with_reducible refine WB.ndF (by first | assumption | omega) ?_ | with_reducible refine WB.nt ?_ | with_reducible refine WB.nf ?_ | with_reducible refine WB.dec (fun h => ?_) (fun h => ?_) | with_reducible refine WB.ndec (fun h => ?_) (fun h => ?_) | refine WB.mk (fun h => ?_) (fun h => ?_)) <;> conv => whnf)
      · refine WCall.of (CallOk.mapAt Hb (lohi_pu _) (id := .h) rfl (show 1 < Pos.nat (.i .h) from by decide) (mp_at (by simp [PuL, Pu]))) ?_; conv => whnf
        repeat' first | ((first | with_reducible apply WB.tt | with_reducible apply WB.ff | refine Rn.seq ?_ | refine Rn.reg ?_ | refine Rn.drw ?_ | refine Rn.blk ?_ | refine Rn.skip ?_ | refine Rn.ret ?_ | refine Rn.exit ?_ | refine Rn.cond rfl ?_ | refine And.intro (InR.i64 (by omega) (by omega)) ?_ | refine And.intro (show _ ≠ (0 : Int) by omega) ?_ | refine WIx.intsN (by omega) ?_ | refine WIx.rowsN (by omega) ?_ | refine WCall.pure (cV) ?_ | with_reducible refine WB.decT (by first | with_reducible rfl | assumption | omega | exact ⟨rfl, rfl⟩) ?_ | with_reducible refine WB.decF (by first | assumption | omega) ?_ | with_reducible refine WB.ndT (by first | with_reducible rfl | assumption | omega | exact ⟨rfl, rfl⟩) ?_ | with_reducible refine WB.ndF (by first | assumption | omega) ?_ | with_reducible refine WB.nt ?_ | with_reducible refine WB.nf ?_ | with_reducible refine WB.dec (fun h => ?_) (fun h => ?_) | with_reducible refine WB.ndec (fun h => ?_) (fun h => ?_) | refine WB.mk (fun h => ?_) (fun h => ?_)) <;> conv => whnf)
        refine WSt.app_first (r := [.i .i64 (vdO B aft (fst + 0))]) rfl (.inl rfl) rfl rfl rfl rfl ?_; conv => whnf
        repeat' first | ((first | with_reducible apply WB.tt | with_reducible apply WB.ff | refine Rn.seq ?_ | refine Rn.reg ?_ | refine Rn.drw ?_ | refine Rn.blk ?_ | refine Rn.skip ?_ | refine Rn.ret ?_ | refine Rn.exit ?_ | refine Rn.cond rfl ?_ | refine And.intro (InR.i64 (by omega) (by omega)) ?_ | refine And.intro (show _ ≠ (0 : Int) by omega) ?_ | refine WIx.intsN (by omega) ?_ | refine WIx.rowsN (by omega) ?_ | with_reducible refine WB.decT (by first | with_reducible rfl | assumption | omega | exact ⟨rfl, rfl⟩) ?_ | with_reducible refine WB.decF (by first | assumption | omega) ?_ | with_reducible refine WB.ndT (by first | with_reducible rfl | assumption | omega | exact ⟨rfl, rfl⟩) ?_ | with_reducible refine WB.ndF (by first | assumption | omega) ?_ | with_reducible refine WB.nt ?_ | with_reducible refine WB.nf ?_ | with_reducible refine WB.dec (fun h => ?_) (fun h => ?_) | with_reducible refine WB.ndec (fun h => ?_) (fun h => ?_) | refine WB.mk (fun h => ?_) (fun h => ?_)) <;> conv => whnf)
        have ht : (vdL B aft fst).take 1 = [vdO B aft (fst + 0)] := by
          rw [take_succ_getD (d := 0) (show 0 < (vdL B aft fst).length by rw [vdL_len]; omega), vdL_at (by omega)]; rfl
        refine Again.to (1, M') (show B.n.toNat - 1 < B.n.toNat - 0 by omega) ⟨show 1 ≤ B.n.toNat by omega, hM'⟩ (Nat.le_of_ble_eq_true rfl) ?_
        refine Shr.of ?_ ?_ rfl rfl
        · (repeat' first | exact Rel.e | refine Rel.some ?_ ?_ ?_ | refine Rel.none ?_ ?_ | refine Rel.ee ?_ ?_)
          all_goals show Fz _ _ _ _
          all_goals first | exact .kpt (show _ < _ by simp [Pos.nat]) | exact .ksl (show _ < _ by simp [Pos.nat]) | exact .pu trivial | (refine Fz.i ?_; omega)
        · (repeat' first | exact Rel.e | refine Rel.some ?_ ?_ ?_ | refine Rel.none ?_ ?_ | refine Rel.ee ?_ ?_)
          all_goals first
            | exact RO'.of (show Pos.nat _ < Pos.nat _ by simp [Pos.nat]) (ShC.kp mapL_kp)
            | exact RO'.of (show Pos.nat _ < Pos.nat _ by simp [Pos.nat]) (ShC.kp (wkCl_kp B (by simp [Pos.nat])))
            | (refine RO'.of (show Pos.nat _ < Pos.nat _ by simp [Pos.nat]) ?_
               show ShC _ _ _ (.cells false ((((vdL B aft fst).take 1).map fun n => D.i .i64 n).map fun d => Cell.o d 0) 1)
               rw [ht]
               exact ShC.same (ShC.cn (.pu trivial) ShC.nl))
    · have hM : MOk B M := hM
      have hj : j + 1 ≤ B.n.toNat := hj
      conv => whnf
      repeat' first | ((first | with_reducible apply WB.tt | with_reducible apply WB.ff | refine Rn.seq ?_ | refine Rn.reg ?_ | refine Rn.drw ?_ | refine Rn.blk ?_ | refine Rn.skip ?_ | refine Rn.ret ?_ | refine Rn.exit ?_ | refine Rn.cond rfl ?_ | refine And.intro (InR.i64 (by omega) (by omega)) ?_ | refine And.intro (show _ ≠ (0 : Int) by omega) ?_ | refine WIx.intsN (by omega) ?_ | refine WIx.rowsN (by omega) ?_) <;> conv => whnf)
      refine WB.dec (fun h => ?_) (fun h => ?_) <;> conv => whnf
      · have hlt : j + 1 < B.n.toNat := by omega
        obtain ⟨M', hM', Hb⟩ := j_bounds V (ask_isOut B (fst + (j + 1)) (by omega)) ha hne M hM
        have cV := j_verd (aft := aft) (x := fst + (j + 1)) hne
        rw [show ((fst + (j + 1) : Nat) : Int) = (fst : Int) + ((j + 1 : Nat) : Int) by omega] at Hb
        repeat' first | ((first | with_reducible apply WB.tt | with_reducible apply WB.ff | refine Rn.seq ?_ | refine Rn.reg ?_ | refine Rn.drw ?_ | refine Rn.blk ?_ | refine Rn.skip ?_ | refine Rn.ret ?_ | refine Rn.exit ?_ | refine Rn.cond rfl ?_ | refine And.intro (InR.i64 (by omega) (by omega)) ?_ | refine And.intro (show _ ≠ (0 : Int) by omega) ?_ | refine WIx.intsN (by omega) ?_ | refine WIx.rowsN (by omega) ?_ | with_reducible refine WB.decT (by first | with_reducible rfl | assumption | omega | exact ⟨rfl, rfl⟩) ?_ | with_reducible refine WB.decF (by first | assumption | omega) ?_ | with_reducible refine WB.ndT (by first | with_reducible rfl | assumption | omega | exact ⟨rfl, rfl⟩) ?_ | with_reducible refine WB.ndF (by first | assumption | omega) ?_ | with_reducible refine WB.nt ?_ | with_reducible refine WB.nf ?_ | with_reducible refine WB.dec (fun h => ?_) (fun h => ?_) | with_reducible refine WB.ndec (fun h => ?_) (fun h => ?_) | refine WB.mk (fun h => ?_) (fun h => ?_)) <;> conv => whnf)
        refine WCall.of (CallOk.mapAt Hb (lohi_pu _) (id := .h) rfl (show 1 < Pos.nat (.i (.o .h)) from by decide) (mp_at (by simp [PuL, Pu]))) ?_; conv => whnf
        repeat' first | ((first | with_reducible apply WB.tt | with_reducible apply WB.ff | refine Rn.seq ?_ | refine Rn.reg ?_ | refine Rn.drw ?_ | refine Rn.blk ?_ | refine Rn.skip ?_ | refine Rn.ret ?_ | refine Rn.exit ?_ | refine Rn.cond rfl ?_ | refine And.intro (InR.i64 (by omega) (by omega)) ?_ | refine And.intro (show _ ≠ (0 : Int) by omega) ?_ | refine WIx.intsN (by omega) ?_ | refine WIx.rowsN (by omega) ?_ | refine WCall.pure (cV) ?_ | with_reducible refine WB.decT (by first | with_reducible rfl | assumption | omega | exact ⟨rfl, rfl⟩) ?_ | with_reducible refine WB.decF (by first | assumption | omega) ?_ | with_reducible refine WB.ndT (by first | with_reducible rfl | assumption | omega | exact ⟨rfl, rfl⟩) ?_ | with_reducible refine WB.ndF (by first | assumption | omega) ?_ | with_reducible refine WB.nt ?_ | with_reducible refine WB.nf ?_ | with_reducible refine WB.dec (fun h => ?_) (fun h => ?_) | with_reducible refine WB.ndec (fun h => ?_) (fun h => ?_) | refine WB.mk (fun h => ?_) (fun h => ?_)) <;> conv => whnf)
        refine WSt.app_one (ds := ((vdL B aft fst).take (j + 1)).map fun n => D.i .i64 n) (r := [.i .i64 (vdO B aft (fst + (j + 1)))]) rfl rfl rfl rfl rfl rfl (by rw [List.length_map, List.length_take, vdL_len]; omega) rfl rfl (by omega) rfl ?_; conv => whnf
        repeat' first | ((first | with_reducible apply WB.tt | with_reducible apply WB.ff | refine Rn.seq ?_ | refine Rn.reg ?_ | refine Rn.drw ?_ | refine Rn.blk ?_ | refine Rn.skip ?_ | refine Rn.ret ?_ | refine Rn.exit ?_ | refine Rn.cond rfl ?_ | refine And.intro (InR.i64 (by omega) (by omega)) ?_ | refine And.intro (show _ ≠ (0 : Int) by omega) ?_ | refine WIx.intsN (by omega) ?_ | refine WIx.rowsN (by omega) ?_ | with_reducible refine WB.decT (by first | with_reducible rfl | assumption | omega | exact ⟨rfl, rfl⟩) ?_ | with_reducible refine WB.decF (by first | assumption | omega) ?_ | with_reducible refine WB.ndT (by first | with_reducible rfl | assumption | omega | exact ⟨rfl, rfl⟩) ?_ | with_reducible refine WB.ndF (by first | assumption | omega) ?_ | with_reducible refine WB.nt ?_ | with_reducible refine WB.nf ?_ | with_reducible refine WB.dec (fun h => ?_) (fun h => ?_) | with_reducible refine WB.ndec (fun h => ?_) (fun h => ?_) | refine WB.mk (fun h => ?_) (fun h => ?_)) <;> conv => whnf)
        have ht : (vdL B aft fst).take (j + 2) = (vdL B aft fst).take (j + 1) ++ [vdO B aft (fst + (j + 1))] := by
          rw [take_succ_getD (d := 0) (show j + 1 < (vdL B aft fst).length by rw [vdL_len]; omega), vdL_at (by omega)]
        refine Again.to (j + 2, M') (show B.n.toNat - (j + 2) < B.n.toNat - (j + 1) by omega) ⟨show j + 2 ≤ B.n.toNat by omega, hM'⟩ (Nat.le_of_ble_eq_true rfl) ?_
        refine Shr.of ?_ ?_ rfl rfl
        · (repeat' first | exact Rel.e | refine Rel.some ?_ ?_ ?_ | refine Rel.none ?_ ?_ | refine Rel.ee ?_ ?_)
          all_goals show Fz _ _ _ _
          all_goals first | exact .kpt (show _ < _ by simp [Pos.nat]) | exact .ksl (show _ < _ by simp [Pos.nat]) | exact .pu trivial | (refine Fz.i ?_; omega)
        · (repeat' first | exact Rel.e | refine Rel.some ?_ ?_ ?_ | refine Rel.none ?_ ?_ | refine Rel.ee ?_ ?_)
          all_goals first
            | exact RO'.of (show Pos.nat _ < Pos.nat _ by simp [Pos.nat]) (ShC.kp mapL_kp)
            | exact RO'.of (show Pos.nat _ < Pos.nat _ by simp [Pos.nat]) (ShC.kp (wkCl_kp B (by simp [Pos.nat])))
            | (refine RO'.of (show Pos.nat _ < Pos.nat _ by simp [Pos.nat]) ?_
               show ShC _ _ (.cells false (((((vdL B aft fst).take (j + 1)).map fun n => D.i .i64 n).map fun d => Cell.o d j) ++ [D.i .i64 (vdO B aft (fst + (j + 1)))].map fun d => Cell.o d (j + 1)) (j + 1 + 1)) (.cells false ((((vdL B aft fst).take (j + 2)).map fun n => D.i .i64 n).map fun d => Cell.o d (j + 1)) (j + 1 + 1))
               rw [ht, List.map_append]
               refine ShC.grown (by omega) (PuL_iff.2 fun d hd => ?_)
               rcases List.mem_append.1 hd with h | h
               · exact PuL_iff.1 (puL_map_j _) d h
               · rw [List.mem_singleton.1 h]; trivial)
      · repeat' first | ((first | with_reducible apply WB.tt | with_reducible apply WB.ff | refine Rn.seq ?_ | refine Rn.reg ?_ | refine Rn.drw ?_ | refine Rn.blk ?_ | refine Rn.skip ?_ | refine Rn.ret ?_ | refine Rn.exit ?_ | refine Rn.cond rfl ?_ | refine And.intro (InR.i64 (by omega) (by omega)) ?_ | refine And.intro (show _ ≠ (0 : Int) by omega) ?_ | refine WIx.intsN (by omega) ?_ | refine WIx.rowsN (by omega) ?_) <;> conv => whnf)
        refine ⟨_, _, ⟨M, hM, rfl, rfl⟩, ⟨.inr rfl, ⟨_, rfl, ?_⟩, Shr.kp ?_ (mapP_kp M)⟩⟩
        · exact Fz.whole (cs := (((vdL B aft fst).take (j + 1)).map fun n => D.i .i64 n).map fun d => Cell.o d j) (cur := j + 1) (show ¬ 4 < 2 by omega) rfl (by rw [ints_length, vdL_len]; omega) (ints_one' _) (by rw [ints_flatten, List.take_of_length_le (by rw [vdL_len]; omega)]) (pu_ints _)
        · show T.le (T.n .e (some (.map (mapL M))) .e : T Ev.C) _
          refine T.le_some (T.le_e _) rfl (T.le_e _))
  exact ⟨M', hM', Hb⟩
end Go.Ev
