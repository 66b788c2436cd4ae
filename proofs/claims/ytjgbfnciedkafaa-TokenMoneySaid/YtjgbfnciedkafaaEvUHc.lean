import Derived.Test.YtjgbfnciedkafaaEvUHb
import Derived.Test.YtjgbfnciedkafaaEvUGc
import Derived.Test.YtjgbfnciedkafaaEvUJb
import Derived.Test.YtjgbfnciedkafaaEvUOc
set_option linter.all false
namespace Go.Ev
open Go.Proofs
set_option maxRecDepth 100000
def tlD (X : List Ln) : List D := [.lst 3 (rows lnD X)]
def tlDs (L : List (List Ln)) : List D := L.map fun x => D.lst 3 (rows lnD x)
theorem pu_tl (L : List (List Ln)) : PuE (rows tlD L) := pu_rows (fun x => by simp [tlD, PuL, Pu, pu_ln]) L
theorem pu_tlDs (L : List (List Ln)) : PuL (tlDs L) := PuL_iff.2 fun d hd => by
  obtain ⟨x, _, rfl⟩ := List.mem_map.1 hd
  exact pu_ln x
theorem tl_one (L : List (List Ln)) : ∀ r ∈ rows tlD L, r.length = 1 := fun r hr => by
  obtain ⟨x, _, rfl⟩ := List.mem_map.1 hr; rfl
theorem tl_flat (L : List (List Ln)) : (rows tlD L).flatten = tlDs L := by
  induction L with
  | nil => rfl
  | cons a L ih => simp only [rows, tlDs, List.map_cons, List.flatten_cons] at *; rw [ih]; rfl
def slT3 : List (List Ln) → D
  | [] => .ns
  | _ :: s => .sl (.i .h) 0 (s.length + 1) s.length 1
def blT3 : List (List Ln) → Option C
  | [] => none
  | a :: s => some (.cells false ((tlDs (a :: s)).map fun d => Cell.o d s.length) (s.length + 1))
def nxT3 : List (List Ln) → Pos
  | [] => .o .h
  | _ :: _ => .o (.o .h)
theorem slT3_kp (A : List (List Ln)) : Kp (nxT3 A).nat (slT3 A) := by
  cases A <;> simp [slT3, nxT3, Kp, Pos.nat, Pu]
theorem nxT3_two (A : List (List Ln)) : 2 ≤ (nxT3 A).nat := by cases A <;> simp [nxT3, Pos.nat]
theorem nxT3_up (A A' : List (List Ln)) : (nxT3 A).nat ≤ (nxT3 (A ++ A')).nat := by
  cases A with
  | nil => cases A' <;> simp [nxT3, Pos.nat]
  | cons a A => simp [nxT3]
theorem tlDs_kp (n st : Nat) (L : List (List Ln)) : ∀ c ∈ (tlDs L).map (fun d => Cell.o d st), Kp n c.d := fun c hc => by
  obtain ⟨d, hd, rfl⟩ := List.mem_map.1 hc
  obtain ⟨x, _, rfl⟩ := List.mem_map.1 hd
  simp [Kp, Pu, Cell.d, pu_ln]
theorem blT3_snoc (a : List Ln) (s : List (List Ln)) (x : List Ln) : blT3 (a :: (s ++ [x])) = some (.cells false ((tlDs (a :: s) ++ [D.lst 3 (rows lnD x)]).map fun d => Cell.o d (s.length + 1)) (s.length + 1 + 1)) := by
  simp [blT3, tlDs]
theorem slT3_snoc (a : List Ln) (s : List (List Ln)) (x : List Ln) : slT3 (a :: (s ++ [x])) = .sl (.i .h) 0 (s.length + 1 + 1) (s.length + 1) 1 := by
  simp [slT3]
theorem allN3_at {n : Int} {ls : List Ln} {j : Nat} (h : j < (manyR n ls).toNat) : (allN3 n ls).getD j [] = nthL n ls j := by
  simp [allN3, List.getD, h]
section
variable (n coin box : Int) (ls : List Ln) (cs : List Ct)
noncomputable def ttS (A : List (List Ln)) (j : Nat) : X := ⟨(.n (.n (.n .e (some (slT3 A)) .e) (some (.pt .h 0 0)) .e) none (.n (.n .e (some (.i .i64 (j : Int))) .e) none .e)), .n .e (some (bkC n coin box ls cs)) (.n .e (blT3 A) .e), nxT3 A, none⟩
theorem ttS_kp (A : List (List Ln)) (j : Nat) : ∀ s d, (ttS n coin box ls cs A j).sl.get s = some d → Kp (nxT3 A).nat d := by
  have h2 := nxT3_two A
  show TAll (fun _ d => Kp (nxT3 A).nat d) _
  unfold ttS
  repeat' first | exact TAll.e | refine TAll.some ?_ ?_ ?_ | refine TAll.none ?_ ?_
  all_goals first | exact slT3_kp A | (simp [Kp, Pu, Pos.nat]; done) | (simp [Kp, Pos.nat]; omega)
theorem ttO_kp (A : List (List Ln)) (j : Nat) : KpO (nxT3 A).nat (ttS n coin box ls cs A j).ob := by
  cases A with
  | nil =>
    show TAll (fun id c => id.nat < 2 ∧ KpC 2 c) _
    unfold ttS blT3
    exact TAll.some TAll.e ⟨by simp [Pos.nat], bkC_kp _ _ _ _ _ _⟩ (TAll.none TAll.e TAll.e)
  | cons a s =>
    show TAll (fun id c => id.nat < 4 ∧ KpC 4 c) _
    unfold ttS blT3
    refine TAll.some TAll.e ⟨by simp [Pos.nat], bkC_kp _ _ _ _ _ _⟩ (TAll.some TAll.e ⟨by simp [Pos.nat], tlDs_kp _ _ _⟩ TAll.e)
end
set_option maxHeartbeats 2000000 in
theorem j_Truths (n coin box : Int) (ls : List Ln) (cs : List Ct) (V : VB (B5 n coin box ls cs)) : PureF Try.prog p61.ix [.ag (bk5 n coin box ls cs)] (.lst 1 (rows tlD (refT (B5 n coin box ls cs)))) := by
  have hal : (allN3 n ls).length ≤ 4096 := allN3_len V
  have hl8 : ls.length ≤ 8 := V.len
  have hMl : (allN3 n ls).length = (manyR n ls).toNat := by unfold allN3; rw [List.length_map, List.length_range]
  have hn : 1 ≤ n ∧ n ≤ 4 := V.n
  have hM0 : 0 ≤ manyR n ls := by
    have := many_prod hn.1 hn.2 ls
    omega
  have hM4 : manyR n ls ≤ 4096 := V.many
  have cM := j_Many n coin box ls cs hn (by omega) V.ls
  refine PureF.run fn60 (by simp) (by simp [PuL, PuE, Pu, bk5, pu_ln, pu_ct]) ?_; conv => whnf
  repeat' first | ((first | with_reducible apply WB.tt | with_reducible apply WB.ff | refine Rn.seq ?_ | refine Rn.reg ?_ | refine Rn.drw ?_ | refine Rn.blk ?_ | refine Rn.skip ?_ | refine Rn.ret ?_ | refine Rn.exit ?_ | refine Rn.cond rfl ?_ | refine And.intro (InR.i64 (by omega) (by omega)) ?_ | refine And.intro (show _ ≠ (0 : Int) by omega) ?_ | refine WIx.intsN (by omega) ?_ | refine WIx.rowsN (by omega) ?_) <;> conv => whnf)
  refine Rn.loop (fun j : Nat => ttS n coin box ls cs (((allN3 n ls).take j).filter (tBad box coin cs)) j) (fun j => j ≤ (allN3 n ls).length) (fun j => (allN3 n ls).length - j) 0 ?_ ?_ ?_
  · refine X.le.mk ?_ (T.le_some (T.le_e _) rfl (T.le_ee (T.le_e _) (T.le_e _))) (Nat.le_refl _) rfl rfl
    show T.le ((.n (.n (.n .e (some (.ns)) .e) (some (.pt .h 0 0)) .e) none (.n (.n .e (some (.i .i64 (0 : Int))) .e) none .e)) : T D) _
    (repeat' first | exact T.le_e _ | refine T.le_some ?_ rfl ?_ | refine T.le_none ?_ ?_)
  · exact Nat.zero_le _
  intro j hj
  have hj : j ≤ (allN3 n ls).length := hj
  have hAl : (((allN3 n ls).take j).filter (tBad box coin cs)).length ≤ 4096 := by
    have h1 := List.length_filter_le (tBad box coin cs) ((allN3 n ls).take j)
    rw [List.length_take] at h1
    omega
  have hend : j = (allN3 n ls).length → ((allN3 n ls).take j).filter (tBad box coin cs) = refT (B5 n coin box ls cs) := fun e => by rw [e, List.take_length]; rfl
  have hnext := fun h => filter_take_succ (p := tBad box coin cs) (l := allN3 n ls) (j := j) (d := []) h
  generalize hA : ((allN3 n ls).take j).filter (tBad box coin cs) = A at *
  conv => whnf
  repeat' first | ((first | with_reducible apply WB.tt | with_reducible apply WB.ff | refine Rn.seq ?_ | refine Rn.reg ?_ | refine Rn.drw ?_ | refine Rn.blk ?_ | refine Rn.skip ?_ | refine Rn.ret ?_ | refine Rn.exit ?_ | refine Rn.cond rfl ?_ | refine And.intro (InR.i64 (by omega) (by omega)) ?_ | refine And.intro (show _ ≠ (0 : Int) by omega) ?_ | refine WIx.intsN (by omega) ?_ | refine WIx.rowsN (by omega) ?_ | refine WCall.pure (cM) ?_) <;> conv => whnf)
  refine WB.dec (fun h => ?_) (fun h => ?_) <;> conv => whnf
  · have hlt : j < (allN3 n ls).length := by omega
    have hnext := hnext (by omega)
    have hup := nxT3_up A
    have cN := j_Nth n coin box ls cs j V (by omega)
    have hxl := nthF_len n ls j ls.length
    rw [allN3_at (by omega)] at hnext
    have hx : nthL n ls j = nthF n ls j ls.length := rfl
    rw [← hx] at hxl
    generalize nthL n ls j = x at *
    have cP := j_IsPossible x (by omega)
    have cC := j_Counted n coin box ls cs x V.box V.coin (by omega) (by have : cs.length ≤ 4 := V.clen; omega) (fun c h => by rw [hxl]; exact V.cs c h)
    have hbad : tBad box coin cs x = (possB x && cntB box coin cs x) := rfl
    have hno : tBad box coin cs x = false → ((allN3 n ls).take (j + 1)).filter (tBad box coin cs) = A := fun hf => by rw [hnext, hf, cond_false, List.append_nil]
    repeat' first | ((first | with_reducible apply WB.tt | with_reducible apply WB.ff | refine Rn.seq ?_ | refine Rn.reg ?_ | refine Rn.drw ?_ | refine Rn.blk ?_ | refine Rn.skip ?_ | refine Rn.ret ?_ | refine Rn.exit ?_ | refine Rn.cond rfl ?_ | refine And.intro (InR.i64 (by omega) (by omega)) ?_ | refine And.intro (show _ ≠ (0 : Int) by omega) ?_ | refine WIx.intsN (by omega) ?_ | refine WIx.rowsN (by omega) ?_ | refine WCall.pure (cN) ?_) <;> conv => whnf)
    cases hp : possB x with
    | false =>
      rw [hp] at cP
      have hno := hno (by rw [hbad, hp]; rfl)
      repeat' first | ((first | with_reducible apply WB.tt | with_reducible apply WB.ff | refine Rn.seq ?_ | refine Rn.reg ?_ | refine Rn.drw ?_ | refine Rn.blk ?_ | refine Rn.skip ?_ | refine Rn.ret ?_ | refine Rn.exit ?_ | refine Rn.cond rfl ?_ | refine And.intro (InR.i64 (by omega) (by omega)) ?_ | refine And.intro (show _ ≠ (0 : Int) by omega) ?_ | refine WIx.intsN (by omega) ?_ | refine WIx.rowsN (by omega) ?_ | refine WCall.pure (cP) ?_) <;> conv => whnf)
      refine Again.to (j + 1) (by omega) (by omega) ?_ ?_
      · show (nxT3 (((allN3 n ls).take j).filter (tBad box coin cs))).nat ≤ (nxT3 (((allN3 n ls).take (j + 1)).filter (tBad box coin cs))).nat
        rw [hA, hno]; exact Nat.le_refl _
      · show Shr _ (ttS n coin box ls cs (((allN3 n ls).take (j + 1)).filter (tBad box coin cs)) (j + 1))
        rw [hno]
        refine Shr.kp2 ?_ (ttS_kp n coin box ls cs _ _) (T.le_refl _) (ttO_kp n coin box ls cs A (j + 1))
        show T.le ((.n (.n (.n .e (some (slT3 A)) .e) (some (.pt .h 0 0)) .e) none (.n (.n .e (some (.i .i64 ((j + 1 : Nat) : Int))) .e) none .e)) : T D) _
        (repeat' first | exact T.le_e _ | refine T.le_some ?_ rfl ?_ | refine T.le_none ?_ ?_)
    | true =>
    rw [hp] at cP
    cases hc : cntB box coin cs x with
    | false =>
      rw [hc] at cC
      have hno := hno (by rw [hbad, hp, hc]; rfl)
      repeat' first | ((first | with_reducible apply WB.tt | with_reducible apply WB.ff | refine Rn.seq ?_ | refine Rn.reg ?_ | refine Rn.drw ?_ | refine Rn.blk ?_ | refine Rn.skip ?_ | refine Rn.ret ?_ | refine Rn.exit ?_ | refine Rn.cond rfl ?_ | refine And.intro (InR.i64 (by omega) (by omega)) ?_ | refine And.intro (show _ ≠ (0 : Int) by omega) ?_ | refine WIx.intsN (by omega) ?_ | refine WIx.rowsN (by omega) ?_ | refine WCall.pure (cP) ?_ | refine WCall.pure (cC) ?_) <;> conv => whnf)
      refine Again.to (j + 1) (by omega) (by omega) ?_ ?_
      · show (nxT3 (((allN3 n ls).take j).filter (tBad box coin cs))).nat ≤ (nxT3 (((allN3 n ls).take (j + 1)).filter (tBad box coin cs))).nat
        rw [hA, hno]; exact Nat.le_refl _
      · show Shr _ (ttS n coin box ls cs (((allN3 n ls).take (j + 1)).filter (tBad box coin cs)) (j + 1))
        rw [hno]
        refine Shr.kp2 ?_ (ttS_kp n coin box ls cs _ _) (T.le_refl _) (ttO_kp n coin box ls cs A (j + 1))
        show T.le ((.n (.n (.n .e (some (slT3 A)) .e) (some (.pt .h 0 0)) .e) none (.n (.n .e (some (.i .i64 ((j + 1 : Nat) : Int))) .e) none .e)) : T D) _
        (repeat' first | exact T.le_e _ | refine T.le_some ?_ rfl ?_ | refine T.le_none ?_ ?_)
    | true =>
    rw [hc] at cC
    have hf : tBad box coin cs x = true := by rw [hbad, hp, hc]; rfl
    rw [hf, cond_true] at hnext
    cases A with
    | nil =>
      repeat' first | ((first | with_reducible apply WB.tt | with_reducible apply WB.ff | refine Rn.seq ?_ | refine Rn.reg ?_ | refine Rn.drw ?_ | refine Rn.blk ?_ | refine Rn.skip ?_ | refine Rn.ret ?_ | refine Rn.exit ?_ | refine Rn.cond rfl ?_ | refine And.intro (InR.i64 (by omega) (by omega)) ?_ | refine And.intro (show _ ≠ (0 : Int) by omega) ?_ | refine WIx.intsN (by omega) ?_ | refine WIx.rowsN (by omega) ?_ | refine WCall.pure (cP) ?_ | refine WCall.pure (cC) ?_) <;> conv => whnf)
      refine WSt.app_first (r := [_]) rfl (.inl rfl) rfl rfl rfl rfl ?_; conv => whnf
      repeat' first | ((first | with_reducible apply WB.tt | with_reducible apply WB.ff | refine Rn.seq ?_ | refine Rn.reg ?_ | refine Rn.drw ?_ | refine Rn.blk ?_ | refine Rn.skip ?_ | refine Rn.ret ?_ | refine Rn.exit ?_ | refine Rn.cond rfl ?_ | refine And.intro (InR.i64 (by omega) (by omega)) ?_ | refine And.intro (show _ ≠ (0 : Int) by omega) ?_ | refine WIx.intsN (by omega) ?_ | refine WIx.rowsN (by omega) ?_) <;> conv => whnf)
      refine Again.to (j + 1) (by omega) (by omega) ?_ ?_
      · show (nxT3 (((allN3 n ls).take j).filter (tBad box coin cs))).nat ≤ (nxT3 (((allN3 n ls).take (j + 1)).filter (tBad box coin cs))).nat
        rw [hA, hnext]; exact hup _
      · show Shr _ (ttS n coin box ls cs (((allN3 n ls).take (j + 1)).filter (tBad box coin cs)) (j + 1))
        rw [hnext]
        refine Shr.kp2 ?_ (ttS_kp n coin box ls cs _ _) ?_ (ttO_kp n coin box ls cs [x] (j + 1))
        · show T.le ((.n (.n (.n .e (some (.sl (.i .h) 0 1 0 1)) .e) (some (.pt .h 0 0)) .e) none (.n (.n .e (some (.i .i64 ((j + 1 : Nat) : Int))) .e) none .e)) : T D) _
          (repeat' first | exact T.le_e _ | refine T.le_some ?_ rfl ?_ | refine T.le_none ?_ ?_)
        · show T.le (T.n .e (some (bkC n coin box ls cs)) (.n .e (some (.cells false [.o (.lst 3 (rows lnD x)) 0] 1)) .e)) _
          (repeat' first | exact T.le_e _ | refine T.le_some ?_ rfl ?_ | refine T.le_none ?_ ?_)
    | cons a s =>
      repeat' first | ((first | with_reducible apply WB.tt | with_reducible apply WB.ff | refine Rn.seq ?_ | refine Rn.reg ?_ | refine Rn.drw ?_ | refine Rn.blk ?_ | refine Rn.skip ?_ | refine Rn.ret ?_ | refine Rn.exit ?_ | refine Rn.cond rfl ?_ | refine And.intro (InR.i64 (by omega) (by omega)) ?_ | refine And.intro (show _ ≠ (0 : Int) by omega) ?_ | refine WIx.intsN (by omega) ?_ | refine WIx.rowsN (by omega) ?_ | refine WCall.pure (cP) ?_ | refine WCall.pure (cC) ?_) <;> conv => whnf)
      refine WSt.app_one (ds := tlDs (a :: s)) (r := [_]) rfl rfl rfl rfl rfl rfl (by simp [tlDs]) rfl rfl (by simp at hAl; omega) rfl ?_; conv => whnf
      repeat' first | ((first | with_reducible apply WB.tt | with_reducible apply WB.ff | refine Rn.seq ?_ | refine Rn.reg ?_ | refine Rn.drw ?_ | refine Rn.blk ?_ | refine Rn.skip ?_ | refine Rn.ret ?_ | refine Rn.exit ?_ | refine Rn.cond rfl ?_ | refine And.intro (InR.i64 (by omega) (by omega)) ?_ | refine And.intro (show _ ≠ (0 : Int) by omega) ?_ | refine WIx.intsN (by omega) ?_ | refine WIx.rowsN (by omega) ?_) <;> conv => whnf)
      refine Again.to (j + 1) (by omega) (by omega) ?_ ?_
      · show (nxT3 (((allN3 n ls).take j).filter (tBad box coin cs))).nat ≤ (nxT3 (((allN3 n ls).take (j + 1)).filter (tBad box coin cs))).nat
        rw [hA, hnext]; exact hup _
      · show Shr _ (ttS n coin box ls cs (((allN3 n ls).take (j + 1)).filter (tBad box coin cs)) (j + 1))
        rw [hnext, List.cons_append]
        refine Shr.of ?_ ?_ rfl rfl
        · show Rel _ _ ((.n (.n (.n .e (some (slT3 (a :: (s ++ [x])))) .e) (some (.pt .h 0 0)) .e) none (.n (.n .e (some (.i .i64 ((j + 1 : Nat) : Int))) .e) none .e)) : T D) _
          rw [slT3_snoc]
          (repeat' first | exact Rel.e | refine Rel.some ?_ ?_ ?_ | refine Rel.none ?_ ?_)
          all_goals show Fz _ _ _ _
          all_goals first | exact .pu trivial | exact .ksl (show _ < 4 by simp [Pos.nat]) | exact .kpt (show _ < 4 by simp [Pos.nat])
        · show Rel _ _ (T.n .e (some (bkC n coin box ls cs)) (.n .e (blT3 (a :: (s ++ [x]))) .e)) _
          rw [blT3_snoc]
          (repeat' first | exact Rel.e | refine Rel.some ?_ ?_ ?_ | refine Rel.none ?_ ?_)
          · exact RO'.of (show _ < 4 by simp [Pos.nat]) (ShC.kp (bkC_kp _ _ _ _ _ _))
          · refine RO'.of (show _ < 4 by simp [Pos.nat]) ?_
            exact ShC.grownF (by omega) (pu_tlDs _) (.pu (pu_ln _))
  · repeat' first | ((first | with_reducible apply WB.tt | with_reducible apply WB.ff | refine Rn.seq ?_ | refine Rn.reg ?_ | refine Rn.drw ?_ | refine Rn.blk ?_ | refine Rn.skip ?_ | refine Rn.ret ?_ | refine Rn.exit ?_ | refine Rn.cond rfl ?_ | refine And.intro (InR.i64 (by omega) (by omega)) ?_ | refine And.intro (show _ ≠ (0 : Int) by omega) ?_ | refine WIx.intsN (by omega) ?_ | refine WIx.rowsN (by omega) ?_) <;> conv => whnf)
    have he := hend (by omega)
    subst he
    refine Fin.t (.inr rfl) rfl ?_
    cases hT : refT (B5 n coin box ls cs) with
    | nil => exact .ns
    | cons a s =>
      exact Frz.whole (cs := (tlDs (a :: s)).map fun d => Cell.o d s.length) (cur := s.length + 1) rfl (by simp [rows]) (tl_one _) (by rw [tl_flat]) (pu_tl _)
theorem hasB_nil {B : Bk} (V : VB B) : hasB B = true ↔ refT B ≠ [] := by
  unfold hasB
  rw [can_iff]
  constructor
  · rintro ⟨X, h⟩ he
    have := (refT_ext V).2 (mem_exT.2 h)
    rw [he] at this; cases this
  · intro h
    obtain ⟨X, s, hs⟩ := List.exists_cons_of_ne_nil h
    have : X ∈ refT B := by rw [hs]; exact List.mem_cons_self
    exact ⟨X, mem_exT.1 ((refT_ext V).1 this)⟩
def surD (n coin box : Int) (ls : List Ln) (cs : List Ct) : D := if sE n coin box ls cs true = 0 then .tp [.lst 1 (rows tlD (refT (B5 n coin box ls cs))), .i .i64 0] else .tp [.lst 1 [], .i .i64 (sE n coin box ls cs true)]
theorem j_sure (n coin box : Int) (ls : List Ln) (cs : List Ct) : PureF Try.prog p35.ix [.ag (bk5 n coin box ls cs)] (surD n coin box ls cs) := by
  have cF := j_Fault n coin box ls cs
  have cf : PureF Try.prog p27.ix [.ag (bk5 n coin box ls cs)] (.i .i64 (faultT n coin box ls cs)) := by
    refine PureF.run fn26 (by simp) (by simp [PuL, Pu, bk5, pu_ln, pu_ct]) ?_; conv => whnf
    repeat' first | ((first | with_reducible apply WB.tt | with_reducible apply WB.ff | refine Rn.seq ?_ | refine Rn.reg ?_ | refine Rn.drw ?_ | refine Rn.blk ?_ | refine Rn.skip ?_ | refine Rn.ret ?_ | refine Rn.exit ?_ | refine Rn.cond rfl ?_ | refine And.intro (InR.i64 (by omega) (by omega)) ?_ | refine And.intro (show _ ≠ (0 : Int) by omega) ?_ | refine WIx.intsN (by omega) ?_ | refine WIx.rowsN (by omega) ?_ | refine WCall.pure (cF) ?_) <;> conv => whnf)
    exact Fin.i rfl rfl
  by_cases hf : faultT n coin box ls cs ≠ 0
  · have hs : sE n coin box ls cs true = faultT n coin box ls cs := by unfold sE; rw [if_pos hf]
    unfold surD
    rw [hs, if_neg hf]
    generalize faultT n coin box ls cs = f at *
    refine PureF.run fn34 (by simp) (by simp [PuL, Pu, bk5, pu_ln, pu_ct]) ?_; conv => whnf
    repeat' first | ((first | with_reducible apply WB.tt | with_reducible apply WB.ff | refine Rn.seq ?_ | refine Rn.reg ?_ | refine Rn.drw ?_ | refine Rn.blk ?_ | refine Rn.skip ?_ | refine Rn.ret ?_ | refine Rn.exit ?_ | refine Rn.cond rfl ?_ | refine And.intro (InR.i64 (by omega) (by omega)) ?_ | refine And.intro (show _ ≠ (0 : Int) by omega) ?_ | refine WIx.intsN (by omega) ?_ | refine WIx.rowsN (by omega) ?_ | refine WCall.pure (cf) ?_ | with_reducible refine WB.decT (by first | with_reducible rfl | assumption | omega | exact ⟨rfl, rfl⟩) ?_ | with_reducible refine WB.decF (by first | assumption | omega) ?_ | with_reducible refine WB.ndT (by first | with_reducible rfl | assumption | omega | exact ⟨rfl, rfl⟩) ?_ | with_reducible refine WB.ndF (by first | assumption | omega) ?_ | with_reducible refine WB.nt ?_ | with_reducible refine WB.nf ?_ | with_reducible refine WB.dec (fun h => ?_) (fun h => ?_) | with_reducible refine WB.ndec (fun h => ?_) (fun h => ?_) | refine WB.mk (fun h => ?_) (fun h => ?_)) <;> conv => whnf)
    all_goals first | (exfalso; omega) | exact ⟨.inr rfl, _, rfl, .tp (.cons .ns (.cons (.pu trivial) .nil))⟩
  · have hf : faultT n coin box ls cs = 0 := by omega
    have V := VB.of hf
    have cT := j_Truths n coin box ls cs V
    have hh := hasB_nil V
    have hs : sE n coin box ls cs true = bif !hasB (B5 n coin box ls cs) then 11 else 0 := by unfold sE; rw [if_neg (fun h => h hf)]; rfl
    rw [hf] at cf
    unfold surD
    rw [hs]
    cases hT : refT (B5 n coin box ls cs) with
    | nil =>
      have hb : hasB (B5 n coin box ls cs) = false := by
        cases hb : hasB (B5 n coin box ls cs) with
        | false => rfl
        | true => exact absurd hT (hh.1 hb)
      rw [hT] at cT
      rw [hb]
      refine PureF.run fn34 (by simp) (by simp [PuL, Pu, bk5, pu_ln, pu_ct]) ?_; conv => whnf
      repeat' first | ((first | with_reducible apply WB.tt | with_reducible apply WB.ff | refine Rn.seq ?_ | refine Rn.reg ?_ | refine Rn.drw ?_ | refine Rn.blk ?_ | refine Rn.skip ?_ | refine Rn.ret ?_ | refine Rn.exit ?_ | refine Rn.cond rfl ?_ | refine And.intro (InR.i64 (by omega) (by omega)) ?_ | refine And.intro (show _ ≠ (0 : Int) by omega) ?_ | refine WIx.intsN (by omega) ?_ | refine WIx.rowsN (by omega) ?_ | refine WCall.pure (cf) ?_ | refine WCall.pure (cT) ?_ | with_reducible refine WB.decT (by first | with_reducible rfl | assumption | omega | exact ⟨rfl, rfl⟩) ?_ | with_reducible refine WB.decF (by first | assumption | omega) ?_ | with_reducible refine WB.ndT (by first | with_reducible rfl | assumption | omega | exact ⟨rfl, rfl⟩) ?_ | with_reducible refine WB.ndF (by first | assumption | omega) ?_ | with_reducible refine WB.nt ?_ | with_reducible refine WB.nf ?_ | with_reducible refine WB.dec (fun h => ?_) (fun h => ?_) | with_reducible refine WB.ndec (fun h => ?_) (fun h => ?_) | refine WB.mk (fun h => ?_) (fun h => ?_)) <;> conv => whnf)
      all_goals first | (exfalso; omega) | exact ⟨.inr rfl, _, rfl, .tp (.cons .ns (.cons (.pu trivial) .nil))⟩ | skip
      exact absurd rfl (by assumption)
    | cons a s =>
      have hb : hasB (B5 n coin box ls cs) = true := hh.2 (by rw [hT]; exact List.cons_ne_nil _ _)
      rw [hT] at cT
      rw [hb]
      have e3 : (rows tlD (a :: s)).length = s.length + 1 := rows_length tlD (a :: s)
      refine PureF.run fn34 (by simp) (by simp [PuL, Pu, bk5, pu_ln, pu_ct]) ?_; conv => whnf
      repeat' first | ((first | with_reducible apply WB.tt | with_reducible apply WB.ff | refine Rn.seq ?_ | refine Rn.reg ?_ | refine Rn.drw ?_ | refine Rn.blk ?_ | refine Rn.skip ?_ | refine Rn.ret ?_ | refine Rn.exit ?_ | refine Rn.cond rfl ?_ | refine And.intro (InR.i64 (by omega) (by omega)) ?_ | refine And.intro (show _ ≠ (0 : Int) by omega) ?_ | refine WIx.intsN (by omega) ?_ | refine WIx.rowsN (by omega) ?_ | refine WCall.pure (cf) ?_ | refine WCall.pure (cT) ?_ | with_reducible refine WB.decT (by first | with_reducible rfl | assumption | omega | exact ⟨rfl, rfl⟩) ?_ | with_reducible refine WB.decF (by first | assumption | omega) ?_ | with_reducible refine WB.ndT (by first | with_reducible rfl | assumption | omega | exact ⟨rfl, rfl⟩) ?_ | with_reducible refine WB.ndF (by first | assumption | omega) ?_ | with_reducible refine WB.nt ?_ | with_reducible refine WB.nf ?_ | with_reducible refine WB.dec (fun h => ?_) (fun h => ?_) | with_reducible refine WB.ndec (fun h => ?_) (fun h => ?_) | refine WB.mk (fun h => ?_) (fun h => ?_)) <;> conv => whnf)
      all_goals first | (exfalso; omega) | exact ⟨.inr rfl, _, rfl, .tp (.cons (.pu (pu_tl _)) (.cons (.pu trivial) .nil))⟩ | skip
end Go.Ev

namespace Go.Ev
open Go.Proofs
set_option maxRecDepth 100000
def widF (r : Int × Int) (n : Int) : Int × Int := (min r.1 n, max r.2 n)
def widR (A : List Int) : Int × Int := A.foldl widF (1099511627776, -1099511627776)
theorem j_Empty : PureF Try.prog p90.ix [] (.ag [.i .i64 1099511627776, .i .i64 (-1099511627776)]) := by
  refine PureF.run fn89 (by simp) (by simp [PuL]) ?_; conv => whnf
  repeat' first | ((first | with_reducible apply WB.tt | with_reducible apply WB.ff | refine Rn.seq ?_ | refine Rn.reg ?_ | refine Rn.drw ?_ | refine Rn.blk ?_ | refine Rn.skip ?_ | refine Rn.ret ?_ | refine Rn.exit ?_ | refine Rn.cond rfl ?_ | refine And.intro (InR.i64 (by omega) (by omega)) ?_ | refine And.intro (show _ ≠ (0 : Int) by omega) ?_ | refine WIx.intsN (by omega) ?_ | refine WIx.rowsN (by omega) ?_) <;> conv => whnf)
  exact ⟨.inr rfl, _, rfl, .ag (.cons (.pu trivial) (.cons (.pu trivial) .nil))⟩
theorem j_Wider (lo hi n : Int) : PureF Try.prog p91.ix [.ag [.i .i64 lo, .i .i64 hi], .i .i64 n] (.ag [.i .i64 (min lo n), .i .i64 (max hi n)]) := by
  refine PureF.run fn90 (by simp) (by simp [PuL, Pu]) ?_; conv => whnf
  repeat' first | ((first | with_reducible apply WB.tt | with_reducible apply WB.ff | refine Rn.seq ?_ | refine Rn.reg ?_ | refine Rn.drw ?_ | refine Rn.blk ?_ | refine Rn.skip ?_ | refine Rn.ret ?_ | refine Rn.exit ?_ | refine Rn.cond rfl ?_ | refine And.intro (InR.i64 (by omega) (by omega)) ?_ | refine And.intro (show _ ≠ (0 : Int) by omega) ?_ | refine WIx.intsN (by omega) ?_ | refine WIx.rowsN (by omega) ?_) <;> conv => whnf)
  exact ⟨.inr rfl, _, rfl, .ag (.cons (.pu trivial) (.cons (.pu trivial) .nil))⟩
noncomputable def rg0C : C := .cells false [.o (.i .i64 0) 0, .o (.i .i64 0) 0] 1
theorem rg0C_sh {B : Pos → Prop} {ob : T C} : ShC B ob rg0C rg0C := ShC.same (ShC.cn (.pu trivial) (ShC.cn (.pu trivial) ShC.nl))
theorem j_BoundsR (n coin box : Int) (ls : List Ln) (cs : List Ct) (L : List (List Ln)) (m : Nat) (hb : 0 ≤ box ∧ box ≤ 999) (hc : 1 ≤ coin ∧ coin ≤ 99) (hl : L.length ≤ 4096) (ht : ∀ t ∈ L, t.length ≤ 1000 ∧ m ≤ t.length) : PureF Try.prog p42.ix [.ag (bk5 n coin box ls cs), .lst 1 (rows tlD L), .i .i64 (m : Int)] (.ag [.i .i64 (widR (L.map fun t => monR box coin t m)).1, .i .i64 (widR (L.map fun t => monR box coin t m)).2]) := by
  have e1 := rows_length tlD L
  have hA : (L.map fun t => monR box coin t m).length = L.length := List.length_map _
  have hAt : ∀ j, j < L.length → (L.map fun t => monR box coin t m).getD j 0 = monR box coin (L.getD j default) m := fun j h => by simp [List.getD, h]
  have hS : ∀ j, j < L.length → _ := fun j h => j_Money n coin box ls cs (L.getD j default) m hb hc (ht _ (getD_mem h)).1 (ht _ (getD_mem h)).2
  generalize (L.map fun t => monR box coin t m) = A at *
  refine PureF.run fn41 (by simp) (by simp [PuL, Pu, bk5, pu_ln, pu_ct, pu_tl]) ?_; conv => whnf
  repeat' first | ((first | with_reducible apply WB.tt | with_reducible apply WB.ff | refine Rn.seq ?_ | refine Rn.reg ?_ | refine Rn.drw ?_ | refine Rn.blk ?_ | refine Rn.skip ?_ | refine Rn.ret ?_ | refine Rn.exit ?_ | refine Rn.cond rfl ?_ | refine And.intro (InR.i64 (by omega) (by omega)) ?_ | refine And.intro (show _ ≠ (0 : Int) by omega) ?_ | refine WIx.intsN (by omega) ?_ | refine WIx.rowsN (by omega) ?_ | refine WCall.pure (j_Empty) ?_) <;> conv => whnf)
  refine Rn.loop (fun j : Nat => ⟨(.n (.n (.n (.n .e (some (.pt (.i .h) 0 0)) .e) (some (.pt .h 0 0)) .e) (some (.lst 1 (rows tlD L))) .e) none (.n (.n (.n .e (some (.i .i64 (j : Int))) .e) none .e) (some (.i .i64 (m : Int))) (.n .e (some (.pt (.o .h) 0 0)) .e))), (.n (.n .e (some (rg0C)) .e) (some (bkC n coin box ls cs)) (.n .e (some (.cells false [.o (.i .i64 (widR (A.take j)).1) 0, .o (.i .i64 (widR (A.take j)).2) 0] 1)) .e)), .o (.o .h), none⟩) (fun j => j ≤ L.length) (fun j => L.length - j) 0 ?_ ?_ ?_
  · refine X.le.mk ?_ ?_ (Nat.le_refl _) rfl rfl
    · (repeat' first | exact T.le_e _ | refine T.le_some ?_ rfl ?_ | refine T.le_none ?_ ?_)
    · (repeat' first | exact T.le_e _ | refine T.le_some ?_ rfl ?_ | refine T.le_none ?_ ?_ | refine T.le_ee ?_ ?_)
  · exact Nat.zero_le _
  intro j hj
  have hj : j ≤ L.length := hj
  conv => whnf
  repeat' first | ((first | with_reducible apply WB.tt | with_reducible apply WB.ff | refine Rn.seq ?_ | refine Rn.reg ?_ | refine Rn.drw ?_ | refine Rn.blk ?_ | refine Rn.skip ?_ | refine Rn.ret ?_ | refine Rn.exit ?_ | refine Rn.cond rfl ?_ | refine And.intro (InR.i64 (by omega) (by omega)) ?_ | refine And.intro (show _ ≠ (0 : Int) by omega) ?_ | refine WIx.intsN (by omega) ?_ | refine WIx.rowsN (by omega) ?_) <;> conv => whnf)
  refine WB.dec (fun h => ?_) (fun h => ?_) <;> conv => whnf
  · have hlt : j < L.length := by omega
    have hat := hAt j hlt
    have cS := hS j hlt
    have hn : widR (A.take (j + 1)) = widF (widR (A.take j)) (A.getD j 0) := foldl_takeJ widF _ (by omega)
    generalize widR (A.take j) = r at *
    have cW := j_Wider r.1 r.2 (monR box coin (L.getD j default) m)
    repeat' first | ((first | with_reducible apply WB.tt | with_reducible apply WB.ff | refine Rn.seq ?_ | refine Rn.reg ?_ | refine Rn.drw ?_ | refine Rn.blk ?_ | refine Rn.skip ?_ | refine Rn.ret ?_ | refine Rn.exit ?_ | refine Rn.cond rfl ?_ | refine And.intro (InR.i64 (by omega) (by omega)) ?_ | refine And.intro (show _ ≠ (0 : Int) by omega) ?_ | refine WIx.intsN (by omega) ?_ | refine WIx.rowsN (by omega) ?_ | refine WCall.pure (cS) ?_ | refine WCall.pure (cW) ?_) <;> conv => whnf)
    refine Again.to (j + 1) (by omega) (by omega) (Nat.le_refl _) ?_
    refine Shr.of ?_ ?_ rfl rfl
    · show Rel _ _ ((.n (.n (.n (.n .e (some (.pt (.i .h) 0 0)) .e) (some (.pt .h 0 0)) .e) (some (.lst 1 (rows tlD L))) .e) none (.n (.n (.n .e (some (.i .i64 ((j + 1 : Nat) : Int))) .e) none .e) (some (.i .i64 (m : Int))) (.n .e (some (.pt (.o .h) 0 0)) .e))) : T D) _
      (repeat' first | exact Rel.e | refine Rel.some ?_ ?_ ?_ | refine Rel.none ?_ ?_)
      all_goals show Fz _ _ _ _
      all_goals first | exact .pu trivial | exact .pu (pu_tl _) | exact .kpt (show _ < 4 by simp [Pos.nat])
    · show Rel _ _ ((.n (.n .e (some (rg0C)) .e) (some (bkC n coin box ls cs)) (.n .e (some (.cells false [.o (.i .i64 (widR (A.take (j + 1))).1) 0, .o (.i .i64 (widR (A.take (j + 1))).2) 0] 1)) .e)) : T C) _
      rw [hn, hat]
      (repeat' first | exact Rel.e | refine Rel.some ?_ ?_ ?_ | refine Rel.none ?_ ?_ | refine Rel.ee ?_ ?_)
      all_goals first
        | exact RO'.of (show _ < 4 by simp [Pos.nat]) rg0C_sh
        | exact RO'.of (show _ < 4 by simp [Pos.nat]) (ShC.kp (bkC_kp _ _ _ _ _ _))
        | exact RO'.of (show _ < 4 by simp [Pos.nat]) (ShC.same (ShC.cn (.pu trivial) (ShC.cn (.pu trivial) ShC.nl)))
  · have he : A.take j = A := List.take_of_length_le (by omega)
    rw [he]
    repeat' first | ((first | with_reducible apply WB.tt | with_reducible apply WB.ff | refine Rn.seq ?_ | refine Rn.reg ?_ | refine Rn.drw ?_ | refine Rn.blk ?_ | refine Rn.skip ?_ | refine Rn.ret ?_ | refine Rn.exit ?_ | refine Rn.cond rfl ?_ | refine And.intro (InR.i64 (by omega) (by omega)) ?_ | refine And.intro (show _ ≠ (0 : Int) by omega) ?_ | refine WIx.intsN (by omega) ?_ | refine WIx.rowsN (by omega) ?_) <;> conv => whnf)
    refine ⟨.inr rfl, _, rfl, ?_⟩
    exact .ag (.cons (.pu trivial) (.cons (.pu trivial) .nil))
theorem j_MixR (L : List (List Ln)) (hl : L.length ≤ 4096) (ht : ∀ t ∈ L, t.length ≤ 1000) : PureF Try.prog p43.ix [.lst 1 (rows tlD L)] (.ag [.i .i64 (widR (L.map fun t => mixR t t.length)).1, .i .i64 (widR (L.map fun t => mixR t t.length)).2]) := by
  have e1 := rows_length tlD L
  have hA : (L.map fun t => mixR t t.length).length = L.length := List.length_map _
  have hAt : ∀ j, j < L.length → (L.map fun t => mixR t t.length).getD j 0 = mixR (L.getD j default) (L.getD j default).length := fun j h => by simp [List.getD, h]
  have hS : ∀ j, j < L.length → _ := fun j h => j_Mixed (L.getD j default) (ht _ (getD_mem h))
  generalize (L.map fun t => mixR t t.length) = A at *
  refine PureF.run fn42 (by simp) (by simp [PuL, Pu, pu_tl]) ?_; conv => whnf
  repeat' first | ((first | with_reducible apply WB.tt | with_reducible apply WB.ff | refine Rn.seq ?_ | refine Rn.reg ?_ | refine Rn.drw ?_ | refine Rn.blk ?_ | refine Rn.skip ?_ | refine Rn.ret ?_ | refine Rn.exit ?_ | refine Rn.cond rfl ?_ | refine And.intro (InR.i64 (by omega) (by omega)) ?_ | refine And.intro (show _ ≠ (0 : Int) by omega) ?_ | refine WIx.intsN (by omega) ?_ | refine WIx.rowsN (by omega) ?_ | refine WCall.pure (j_Empty) ?_) <;> conv => whnf)
  refine Rn.loop (fun j : Nat => ⟨(.n (.n (.n .e (some (.pt (.o .h) 0 0)) .e) none .e) (some (.lst 1 (rows tlD L))) (.n (.n .e (some (.i .i64 (j : Int))) .e) (some (.pt .h 0 0)) .e)), (.n (.n .e (some (.cells false [.o (.i .i64 (widR (A.take j)).1) 0, .o (.i .i64 (widR (A.take j)).2) 0] 1)) .e) (some (rg0C)) .e), .i .h, none⟩) (fun j => j ≤ L.length) (fun j => L.length - j) 0 ?_ ?_ ?_
  · refine X.le.mk ?_ ?_ (Nat.le_refl _) rfl rfl
    · (repeat' first | exact T.le_e _ | refine T.le_some ?_ rfl ?_ | refine T.le_none ?_ ?_)
    · (repeat' first | exact T.le_e _ | refine T.le_some ?_ rfl ?_ | refine T.le_none ?_ ?_ | refine T.le_ee ?_ ?_)
  · exact Nat.zero_le _
  intro j hj
  have hj : j ≤ L.length := hj
  conv => whnf
  repeat' first | ((first | with_reducible apply WB.tt | with_reducible apply WB.ff | refine Rn.seq ?_ | refine Rn.reg ?_ | refine Rn.drw ?_ | refine Rn.blk ?_ | refine Rn.skip ?_ | refine Rn.ret ?_ | refine Rn.exit ?_ | refine Rn.cond rfl ?_ | refine And.intro (InR.i64 (by omega) (by omega)) ?_ | refine And.intro (show _ ≠ (0 : Int) by omega) ?_ | refine WIx.intsN (by omega) ?_ | refine WIx.rowsN (by omega) ?_) <;> conv => whnf)
  refine WB.dec (fun h => ?_) (fun h => ?_) <;> conv => whnf
  · have hlt : j < L.length := by omega
    have hat := hAt j hlt
    have cS := hS j hlt
    have hn : widR (A.take (j + 1)) = widF (widR (A.take j)) (A.getD j 0) := foldl_takeJ widF _ (by omega)
    generalize widR (A.take j) = r at *
    have cW := j_Wider r.1 r.2 (mixR (L.getD j default) (L.getD j default).length)
    repeat' first | ((first | with_reducible apply WB.tt | with_reducible apply WB.ff | refine Rn.seq ?_ | refine Rn.reg ?_ | refine Rn.drw ?_ | refine Rn.blk ?_ | refine Rn.skip ?_ | refine Rn.ret ?_ | refine Rn.exit ?_ | refine Rn.cond rfl ?_ | refine And.intro (InR.i64 (by omega) (by omega)) ?_ | refine And.intro (show _ ≠ (0 : Int) by omega) ?_ | refine WIx.intsN (by omega) ?_ | refine WIx.rowsN (by omega) ?_ | refine WCall.pure (cS) ?_ | refine WCall.pure (cW) ?_) <;> conv => whnf)
    refine Again.to (j + 1) (by omega) (by omega) (Nat.le_refl _) ?_
    refine Shr.of ?_ ?_ rfl rfl
    · show Rel _ _ ((.n (.n (.n .e (some (.pt (.o .h) 0 0)) .e) none .e) (some (.lst 1 (rows tlD L))) (.n (.n .e (some (.i .i64 ((j + 1 : Nat) : Int))) .e) (some (.pt .h 0 0)) .e)) : T D) _
      (repeat' first | exact Rel.e | refine Rel.some ?_ ?_ ?_ | refine Rel.none ?_ ?_)
      all_goals show Fz _ _ _ _
      all_goals first | exact .pu trivial | exact .pu (pu_tl _) | exact .kpt (show _ < 3 by simp [Pos.nat])
    · show Rel _ _ ((.n (.n .e (some (.cells false [.o (.i .i64 (widR (A.take (j + 1))).1) 0, .o (.i .i64 (widR (A.take (j + 1))).2) 0] 1)) .e) (some (rg0C)) .e) : T C) _
      rw [hn, hat]
      (repeat' first | exact Rel.e | refine Rel.some ?_ ?_ ?_ | refine Rel.none ?_ ?_ | refine Rel.ee ?_ ?_)
      all_goals first
        | exact RO'.of (show _ < 3 by simp [Pos.nat]) rg0C_sh
        | exact RO'.of (show _ < 3 by simp [Pos.nat]) (ShC.same (ShC.cn (.pu trivial) (ShC.cn (.pu trivial) ShC.nl)))
  · have he : A.take j = A := List.take_of_length_le (by omega)
    rw [he]
    repeat' first | ((first | with_reducible apply WB.tt | with_reducible apply WB.ff | refine Rn.seq ?_ | refine Rn.reg ?_ | refine Rn.drw ?_ | refine Rn.blk ?_ | refine Rn.skip ?_ | refine Rn.ret ?_ | refine Rn.exit ?_ | refine Rn.cond rfl ?_ | refine And.intro (InR.i64 (by omega) (by omega)) ?_ | refine And.intro (show _ ≠ (0 : Int) by omega) ?_ | refine WIx.intsN (by omega) ?_ | refine WIx.rowsN (by omega) ?_) <;> conv => whnf)
    refine ⟨.inr rfl, _, rfl, ?_⟩
    exact .ag (.cons (.pu trivial) (.cons (.pu trivial) .nil))
theorem foldl_minJ : ∀ (L : List Int) (a : Int), L.foldl min a ≤ a ∧ (∀ x ∈ L, L.foldl min a ≤ x) ∧ (L.foldl min a = a ∨ L.foldl min a ∈ L)
  | [], a => ⟨Int.le_refl _, fun x h => absurd h (by simp), .inl rfl⟩
  | y :: L, a => by
    obtain ⟨h1, h2, h3⟩ := foldl_minJ L (min a y)
    refine ⟨by show L.foldl min (min a y) ≤ a; omega, fun x hx => ?_, ?_⟩
    · show L.foldl min (min a y) ≤ x
      rcases List.mem_cons.1 hx with rfl | hx
      · omega
      · exact h2 x hx
    · show L.foldl min (min a y) = a ∨ L.foldl min (min a y) ∈ y :: L
      rcases h3 with h3 | h3
      · by_cases h : a ≤ y
        · left; omega
        · right; rw [h3, show min a y = y by omega]; exact List.mem_cons_self
      · exact .inr (List.mem_cons_of_mem _ h3)
theorem foldl_maxJ : ∀ (L : List Int) (a : Int), a ≤ L.foldl max a ∧ (∀ x ∈ L, x ≤ L.foldl max a) ∧ (L.foldl max a = a ∨ L.foldl max a ∈ L)
  | [], a => ⟨Int.le_refl _, fun x h => absurd h (by simp), .inl rfl⟩
  | y :: L, a => by
    obtain ⟨h1, h2, h3⟩ := foldl_maxJ L (max a y)
    refine ⟨by show a ≤ L.foldl max (max a y); omega, fun x hx => ?_, ?_⟩
    · show x ≤ L.foldl max (max a y)
      rcases List.mem_cons.1 hx with rfl | hx
      · omega
      · exact h2 x hx
    · show L.foldl max (max a y) = a ∨ L.foldl max (max a y) ∈ y :: L
      rcases h3 with h3 | h3
      · by_cases h : y ≤ a
        · left; omega
        · right; rw [h3, show max a y = y by omega]; exact List.mem_cons_self
      · exact .inr (List.mem_cons_of_mem _ h3)
theorem widF_foldJ : ∀ (B : List Int) (a b : Int), B.foldl widF (a, b) = (B.foldl min a, B.foldl max b)
  | [], _, _ => rfl
  | _ :: B, a, b => widF_foldJ B _ _
theorem getD0_mem {A : List Int} (h : A ≠ []) : A.getD 0 0 ∈ A := getD_mem (by cases A with | nil => exact absurd rfl h | cons a s => simp)
theorem bd_widJ {A B : List Int} (h0 : A ≠ []) (hs : ∀ x, x ∈ A ↔ x ∈ B) (hb : ∀ x ∈ B, -1099511627776 ≤ x ∧ x ≤ 1099511627776) : (A.foldl min (A.getD 0 0) = (widR B).1) ∧ (A.foldl max (A.getD 0 0) = (widR B).2) := by
  have hA := getD0_mem h0
  unfold widR
  rw [widF_foldJ]
  obtain ⟨a1, a2, a3⟩ := foldl_minJ A (A.getD 0 0)
  obtain ⟨b1, b2, b3⟩ := foldl_minJ B 1099511627776
  obtain ⟨c1, c2, c3⟩ := foldl_maxJ A (A.getD 0 0)
  obtain ⟨d1, d2, d3⟩ := foldl_maxJ B (-1099511627776)
  have m1 : A.foldl min (A.getD 0 0) ∈ A := by
    rcases a3 with h | h
    · rw [h]; exact hA
    · exact h
  have m2 : A.foldl max (A.getD 0 0) ∈ A := by
    rcases c3 with h | h
    · rw [h]; exact hA
    · exact h
  constructor
  · show _ = B.foldl min 1099511627776
    have k1 := b2 _ ((hs _).1 m1)
    have k3 := hb _ ((hs _).1 m1)
    rcases b3 with h | h
    · omega
    · have k2 := a2 _ ((hs _).2 h)
      omega
  · show _ = B.foldl max (-1099511627776)
    have k1 := d2 _ ((hs _).1 m2)
    have k3 := hb _ ((hs _).1 m2)
    rcases d3 with h | h
    · omega
    · have k2 := c2 _ ((hs _).2 h)
      omega
theorem lohi_wid {A B : List Int} (h0 : A ≠ []) (hs : ∀ x, x ∈ A ↔ x ∈ B) (hb : ∀ x ∈ B, -1099511627776 ≤ x ∧ x ≤ 1099511627776) : lohi A = .ag [.i .i64 (widR B).1, .i .i64 (widR B).2] := by
  obtain ⟨h1, h2⟩ := bd_widJ h0 hs hb
  unfold lohi
  rw [h1, h2]
theorem mem_ans {B : Bk} (V : VB B) {aft : Nat} {ak : Mo → Int} {g : List Ln → Int} (hg : ∀ X, ak (moR B.box B.coin X aft) = g X) (x : Int) : x ∈ ansL B aft ak ↔ x ∈ (refT B).map g := by
  unfold ansL
  rw [List.mem_map, List.mem_map]
  constructor
  · rintro ⟨X, h, rfl⟩
    exact ⟨X, (refT_ext V).2 h, (hg X).symm⟩
  · rintro ⟨X, h, rfl⟩
    exact ⟨X, (refT_ext V).1 h, hg X⟩
theorem ans_ne {B : Bk} {aft : Nat} {ak : Mo → Int} (h : exT B B.ls.length [] ≠ []) : ansL B aft ak ≠ [] := by
  unfold ansL
  intro he
  exact h (List.map_eq_nil_iff.1 he)
theorem money_same {B : Bk} (V : VB B) {aft : Nat} (ha : aft ≤ B.ls.length) (h : exT B B.ls.length [] ≠ []) : lohi (ansL B aft Mo.box) = .ag [.i .i64 (widR ((refT B).map fun t => monR B.box B.coin t aft)).1, .i .i64 (widR ((refT B).map fun t => monR B.box B.coin t aft)).2] :=
  lohi_wid (ans_ne h) (mem_ans V (g := fun t => monR B.box B.coin t aft) fun X => rfl) fun x hx => by
    obtain ⟨X, _, rfl⟩ := List.mem_map.1 hx
    have := monR_bd (T := X) V.box V.coin aft
    have := V.len
    show _ ≤ monR B.box B.coin X aft ∧ monR B.box B.coin X aft ≤ _
    omega
theorem mixed_same {B : Bk} (V : VB B) (h : exT B B.ls.length [] ≠ []) : lohi (ansL B B.ls.length Mo.mix) = .ag [.i .i64 (widR ((refT B).map fun t => mixR t t.length)).1, .i .i64 (widR ((refT B).map fun t => mixR t t.length)).2] := by
  refine lohi_wid (ans_ne h) (fun x => ?_) fun x hx => ?_
  · rw [mem_ans V (g := fun t => mixR t B.ls.length) (fun X => rfl)]
    have : (refT B).map (fun t => mixR t B.ls.length) = (refT B).map fun t => mixR t t.length := List.map_congr_left fun X hX => by rw [refT_len V hX]
    rw [this]
  · obtain ⟨X, hX, rfl⟩ := List.mem_map.1 hx
    have := mixR_bd (T := X) X.length
    have := refT_len V hX
    have := V.len
    show _ ≤ mixR X X.length ∧ mixR X X.length ≤ _
    omega
end Go.Ev

namespace Go.Ev
open Go.Proofs
theorem fit_lines : ∀ {es : List (List D)}, (∀ x ∈ es, FitL [.i .i64, .i .i64, .i .i64] x) → ∃ l : List Ln, es = rows lnD l ∧ ∀ r ∈ l, lnWf r
  | [], _ => ⟨[], rfl, fun r h => by cases h⟩
  | x :: es, h => by
    obtain ⟨l, rfl, hl⟩ := fit_lines (es := es) fun y hy => h y (by simp [hy])
    have h1 := h x (by simp)
    simp only [FitL, FitC] at h1
    obtain ⟨d, ds, rfl, ⟨n1, rfl, w1⟩, d2, ds2, rfl, ⟨n2, rfl, w2⟩, d3, ds3, rfl, ⟨n3, rfl, w3⟩, rfl⟩ := h1
    refine ⟨⟨n1, n2, n3⟩ :: l, rfl, fun r hr => ?_⟩
    rcases List.mem_cons.1 hr with rfl | hr
    · exact ⟨wfB_of w1, wfB_of w2, wfB_of w3⟩
    · exact hl r hr
theorem fit_counts : ∀ {es : List (List D)}, (∀ x ∈ es, FitL [.i .i64, .i .i64, .i .i64] x) → ∃ l : List Ct, es = rows ctD l
  | [], _ => ⟨[], rfl⟩
  | x :: es, h => by
    obtain ⟨l, rfl⟩ := fit_counts (es := es) fun y hy => h y (by simp [hy])
    have h1 := h x (by simp)
    simp only [FitL, FitC] at h1
    obtain ⟨d, ds, rfl, ⟨n1, rfl, w1⟩, d2, ds2, rfl, ⟨n2, rfl, w2⟩, d3, ds3, rfl, ⟨n3, rfl, w3⟩, rfl⟩ := h1
    exact ⟨⟨n1, n2, n3⟩ :: l, rfl⟩
theorem FitP.book {ps : List (Bool × List CK)} {ds : List D} (h : FitP ((true, [.i .i64, .i .i64, .i .i64, .sl [.i .i64, .i .i64, .i .i64], .sl [.i .i64, .i .i64, .i .i64]]) :: ps) ds) : ∃ n coin box ls cs ds', ds = .ag [.i .i64 n, .i .i64 coin, .i .i64 box, .lst 3 (rows lnD ls), .lst 3 (rows ctD cs)] :: ds' ∧ FitP ps ds' := by
  unfold FitP at h
  obtain ⟨es, ds', rfl, h1, h2⟩ := h
  simp only [FitL, FitC] at h1
  obtain ⟨d, ds, rfl, ⟨n1, rfl, _⟩, d2, ds2, rfl, ⟨n2, rfl, _⟩, d3, ds3, rfl, ⟨n3, rfl, _⟩, d4, ds4, rfl, ⟨e4, rfl, k4⟩, d5, ds5, rfl, ⟨e5, rfl, k5⟩, rfl⟩ := h1
  obtain ⟨ls, rfl, _⟩ := fit_lines fun x hx => by have := k4 x hx; simpa only [FitL, FitC] using this
  obtain ⟨cs, rfl⟩ := fit_counts fun x hx => by have := k5 x hx; simpa only [FitL, FitC] using this
  exact ⟨n1, n2, n3, ls, cs, ds', rfl, h2⟩
end Go.Ev
