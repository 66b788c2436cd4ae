import Derived.Test.YtjgbfnciedkafaaEvUJs
import Derived.Test.YtjgbfnciedkafaaEvUGc
import Derived.Test.YtjgbfnciedkafaaEvUOc
import Derived.Test.YtjgbfnciedkafaaEvUIt
import Derived.Test.YtjgbfnciedkafaaEvUJb
set_option linter.all false
namespace Go.Ev
open Go.Proofs
set_option maxRecDepth 100000
def tlD (X : List Ln) : List D := [.lst 3 (rows lnD X)]
def tlDs (L : List (List Ln)) : List D := L.map fun x => D.lst 3 (rows lnD x)
theorem pu_tl (L : List (List Ln)) : PuE (rows tlD L) := pu_rows (fun x => by simp [tlD, PuL, Pu, pu_ln]) L
theorem pu_tlDs (L : List (List Ln)) : PuL (tlDs L) := PuL_iff.2 fun d hd => by
  obtain ⟨x, _, rfl⟩ := List.mem_map.1 hd
  exact pu_ln x
theorem tl_one (L : List (List Ln)) : ∀ r ∈ rows tlD L, r.length = 1 := fun r hr => by
  obtain ⟨x, _, rfl⟩ := List.mem_map.1 hr; rfl
theorem tl_flat (L : List (List Ln)) : (rows tlD L).flatten = tlDs L := by
  induction L with
  | nil => rfl
  | cons a L ih => simp only [rows, tlDs, List.map_cons, List.flatten_cons] at *; rw [ih]; rfl
def slT3 : List (List Ln) → D
  | [] => .ns
  | _ :: s => .sl (.i .h) 0 (s.length + 1) s.length 1
def blT3 : List (List Ln) → Option C
  | [] => none
  | a :: s => some (.cells false ((tlDs (a :: s)).map fun d => Cell.o d s.length) (s.length + 1))
def nxT3 : List (List Ln) → Pos
  | [] => .o .h
  | _ :: _ => .o (.o .h)
theorem slT3_kp (A : List (List Ln)) : Kp (nxT3 A).nat (slT3 A) := by
  cases A <;> simp [slT3, nxT3, Kp, Pos.nat, Pu]
theorem nxT3_two (A : List (List Ln)) : 2 ≤ (nxT3 A).nat := by cases A <;> simp [nxT3, Pos.nat]
theorem nxT3_up (A A' : List (List Ln)) : (nxT3 A).nat ≤ (nxT3 (A ++ A')).nat := by
  cases A with
  | nil => cases A' <;> simp [nxT3, Pos.nat]
  | cons a A => simp [nxT3]
theorem tlDs_kp (n st : Nat) (L : List (List Ln)) : ∀ c ∈ (tlDs L).map (fun d => Cell.o d st), Kp n c.d := fun c hc => by
  obtain ⟨d, hd, rfl⟩ := List.mem_map.1 hc
  obtain ⟨x, _, rfl⟩ := List.mem_map.1 hd
  simp [Kp, Pu, Cell.d, pu_ln]
theorem blT3_snoc (a : List Ln) (s : List (List Ln)) (x : List Ln) : blT3 (a :: (s ++ [x])) = some (.cells false ((tlDs (a :: s) ++ [D.lst 3 (rows lnD x)]).map fun d => Cell.o d (s.length + 1)) (s.length + 1 + 1)) := by
  simp [blT3, tlDs]
theorem slT3_snoc (a : List Ln) (s : List (List Ln)) (x : List Ln) : slT3 (a :: (s ++ [x])) = .sl (.i .h) 0 (s.length + 1 + 1) (s.length + 1) 1 := by
  simp [slT3]
theorem allN3_at {n : Int} {ls : List Ln} {j : Nat} (h : j < (manyR n ls).toNat) : (allN3 n ls).getD j [] = nthL n ls j := by
  simp [allN3, List.getD, h]
section
variable (n coin box : Int) (ls : List Ln) (cs : List Ct)
noncomputable def ttS (A : List (List Ln)) (j : Nat) : X := ⟨(.n (.n (.n .e (some (slT3 A)) .e) (some (.pt .h 0 0)) .e) none (.n (.n .e (some (.i .i64 (j : Int))) .e) none .e)), .n .e (some (bkC n coin box ls cs)) (.n .e (blT3 A) .e), nxT3 A, none⟩
theorem ttS_kp (A : List (List Ln)) (j : Nat) : ∀ s d, (ttS n coin box ls cs A j).sl.get s = some d → Kp (nxT3 A).nat d := by
  have h2 := nxT3_two A
  show TAll (fun _ d => Kp (nxT3 A).nat d) _
  unfold ttS
  repeat' first | exact TAll.e | refine TAll.some ?_ ?_ ?_ | refine TAll.none ?_ ?_
  all_goals first | exact slT3_kp A | (simp [Kp, Pu, Pos.nat]; done) | (simp [Kp, Pos.nat]; omega)
theorem ttO_kp (A : List (List Ln)) (j : Nat) : KpO (nxT3 A).nat (ttS n coin box ls cs A j).ob := by
  cases A with
  | nil =>
    show TAll (fun id c => id.nat < 2 ∧ KpC 2 c) _
    unfold ttS blT3
    exact TAll.some TAll.e ⟨by simp [Pos.nat], bkC_kp _ _ _ _ _ _⟩ (TAll.none TAll.e TAll.e)
  | cons a s =>
    show TAll (fun id c => id.nat < 4 ∧ KpC 4 c) _
    unfold ttS blT3
    refine TAll.some TAll.e ⟨by simp [Pos.nat], bkC_kp _ _ _ _ _ _⟩ (TAll.some TAll.e ⟨by simp [Pos.nat], tlDs_kp _ _ _⟩ TAll.e)
end
set_option maxHeartbeats 2000000 in
theorem j_Truths (n coin box : Int) (ls : List Ln) (cs : List Ct) (V : VB (B5 n coin box ls cs)) : PureF Try.prog p61.ix [.ag (bk5 n coin box ls cs)] (.lst 1 (rows tlD (refT (B5 n coin box ls cs)))) := by
  have hal : (allN3 n ls).length ≤ 4096 := allN3_len V
  have hl8 : ls.length ≤ 8 := V.len
  have hMl : (allN3 n ls).length = (manyR n ls).toNat := by unfold allN3; rw [List.length_map, List.length_range]
  have hn : 1 ≤ n ∧ n ≤ 4 := V.n
  have hM0 : 0 ≤ manyR n ls := by
    have := many_prod hn.1 hn.2 ls
    omega
  have hM4 : manyR n ls ≤ 4096 := V.many
  have cM := j_Many n coin box ls cs hn (by omega) V.ls
  refine PureF.run fn60 (by simp) (by simp [PuL, PuE, Pu, bk5, pu_ln, pu_ct]) ?_; conv => whnf
  repeat' first | ((first | with_reducible apply WB.tt | with_reducible apply WB.ff | refine Rn.seq ?_ | refine Rn.reg ?_ | refine Rn.drw ?_ | refine Rn.blk ?_ | refine Rn.skip ?_ | refine Rn.ret ?_ | refine Rn.exit ?_ | refine Rn.cond rfl ?_ | refine And.intro (InR.i64 (by omega) (by omega)) ?_ | refine And.intro (show _ ≠ (0 : Int) by omega) ?_ | refine WIx.intsN (by omega) ?_ | refine WIx.rowsN (by omega) ?_) <;> conv => whnf)
  refine Rn.loop (fun j : Nat => ttS n coin box ls cs (((allN3 n ls).take j).filter (tBad box coin cs)) j) (fun j => j ≤ (allN3 n ls).length) (fun j => (allN3 n ls).length - j) 0 ?_ ?_ ?_
  · refine X.le.mk ?_ (T.le_some (T.le_e _) rfl (T.le_ee (T.le_e _) (T.le_e _))) (Nat.le_refl _) rfl rfl
    show T.le ((.n (.n (.n .e (some (.ns)) .e) (some (.pt .h 0 0)) .e) none (.n (.n .e (some (.i .i64 (0 : Int))) .e) none .e)) : T D) _
    (repeat' first | exact T.le_e _ | refine T.le_some ?_ rfl ?_ | refine T.le_none ?_ ?_)
  · exact Nat.zero_le _
  intro j hj
  have hj : j ≤ (allN3 n ls).length := hj
  have hAl : (((allN3 n ls).take j).filter (tBad box coin cs)).length ≤ 4096 := by
    have h1 := List.length_filter_le (tBad box coin cs) ((allN3 n ls).take j)
    rw [List.length_take] at h1
    omega
  have hend : j = (allN3 n ls).length → ((allN3 n ls).take j).filter (tBad box coin cs) = refT (B5 n coin box ls cs) := fun e => by rw [e, List.take_length]; rfl
  have hnext := fun h => filter_take_succ (p := tBad box coin cs) (l := allN3 n ls) (j := j) (d := []) h
  generalize hA : ((allN3 n ls).take j).filter (tBad box coin cs) = A at *
  conv => whnf
  repeat' first | ((first | with_reducible apply WB.tt | with_reducible apply WB.ff | refine Rn.seq ?_ | refine Rn.reg ?_ | refine Rn.drw ?_ | refine Rn.blk ?_ | refine Rn.skip ?_ | refine Rn.ret ?_ | refine Rn.exit ?_ | refine Rn.cond rfl ?_ | refine And.intro (InR.i64 (by omega) (by omega)) ?_ | refine And.intro (show _ ≠ (0 : Int) by omega) ?_ | refine WIx.intsN (by omega) ?_ | refine WIx.rowsN (by omega) ?_ | refine WCall.pure (cM) ?_) <;> conv => whnf)
  refine WB.dec (fun h => ?_) (fun h => ?_) <;> conv => whnf
  · have hlt : j < (allN3 n ls).length := by omega
    have hnext := hnext (by omega)
    have hup := nxT3_up A
    have cN := j_Nth n coin box ls cs j V (by omega)
    have hxl := nthF_len n ls j ls.length
    rw [allN3_at (by omega)] at hnext
    have hx : nthL n ls j = nthF n ls j ls.length := rfl
    rw [← hx] at hxl
    generalize nthL n ls j = x at *
    have cP := j_IsPossible x (by omega)
    have cC := j_Counted n coin box ls cs x V.box V.coin (by omega) (by have : cs.length ≤ 4 := V.clen; omega) (fun c h => by rw [hxl]; exact V.cs c h)
    have hbad : tBad box coin cs x = (possB x && cntB box coin cs x) := rfl
    have hno : tBad box coin cs x = false → ((allN3 n ls).take (j + 1)).filter (tBad box coin cs) = A := fun hf => by rw [hnext, hf, cond_false, List.append_nil]
    repeat' first | ((first | with_reducible apply WB.tt | with_reducible apply WB.ff | refine Rn.seq ?_ | refine Rn.reg ?_ | refine Rn.drw ?_ | refine Rn.blk ?_ | refine Rn.skip ?_ | refine Rn.ret ?_ | refine Rn.exit ?_ | refine Rn.cond rfl ?_ | refine And.intro (InR.i64 (by omega) (by omega)) ?_ | refine And.intro (show _ ≠ (0 : Int) by omega) ?_ | refine WIx.intsN (by omega) ?_ | refine WIx.rowsN (by omega) ?_ | refine WCall.pure (cN) ?_) <;> conv => whnf)
    cases hp : possB x with
    | false =>
      rw [hp] at cP
      have hno := hno (by rw [hbad, hp]; rfl)
      repeat' first | ((first | with_reducible apply WB.tt | with_reducible apply WB.ff | refine Rn.seq ?_ | refine Rn.reg ?_ | refine Rn.drw ?_ | refine Rn.blk ?_ | refine Rn.skip ?_ | refine Rn.ret ?_ | refine Rn.exit ?_ | refine Rn.cond rfl ?_ | refine And.intro (InR.i64 (by omega) (by omega)) ?_ | refine And.intro (show _ ≠ (0 : Int) by omega) ?_ | refine WIx.intsN (by omega) ?_ | refine WIx.rowsN (by omega) ?_ | refine WCall.pure (cP) ?_) <;> conv => whnf)
      refine Again.to (j + 1) (by omega) (by omega) ?_ ?_
      · show (nxT3 (((allN3 n ls).take j).filter (tBad box coin cs))).nat ≤ (nxT3 (((allN3 n ls).take (j + 1)).filter (tBad box coin cs))).nat
        rw [hA, hno]; exact Nat.le_refl _
      · show Shr _ (ttS n coin box ls cs (((allN3 n ls).take (j + 1)).filter (tBad box coin cs)) (j + 1))
        rw [hno]
        refine Shr.kp2 ?_ (ttS_kp n coin box ls cs _ _) (T.le_refl _) (ttO_kp n coin box ls cs A (j + 1))
        show T.le ((.n (.n (.n .e (some (slT3 A)) .e) (some (.pt .h 0 0)) .e) none (.n (.n .e (some (.i .i64 ((j + 1 : Nat) : Int))) .e) none .e)) : T D) _
        (repeat' first | exact T.le_e _ | refine T.le_some ?_ rfl ?_ | refine T.le_none ?_ ?_)
    | true =>
    rw [hp] at cP
    cases hc : cntB box coin cs x with
    | false =>
      rw [hc] at cC
      have hno := hno (by rw [hbad, hp, hc]; rfl)
      repeat' first | ((first | with_reducible apply WB.tt | with_reducible apply WB.ff | refine Rn.seq ?_ | refine Rn.reg ?_ | refine Rn.drw ?_ | refine Rn.blk ?_ | refine Rn.skip ?_ | refine Rn.ret ?_ | refine Rn.exit ?_ | refine Rn.cond rfl ?_ | refine And.intro (InR.i64 (by omega) (by omega)) ?_ | refine And.intro (show _ ≠ (0 : Int) by omega) ?_ | refine WIx.intsN (by omega) ?_ | refine WIx.rowsN (by omega) ?_ | refine WCall.pure (cP) ?_ | refine WCall.pure (cC) ?_) <;> conv => whnf)
      refine Again.to (j + 1) (by omega) (by omega) ?_ ?_
      · show (nxT3 (((allN3 n ls).take j).filter (tBad box coin cs))).nat ≤ (nxT3 (((allN3 n ls).take (j + 1)).filter (tBad box coin cs))).nat
        rw [hA, hno]; exact Nat.le_refl _
      · show Shr _ (ttS n coin box ls cs (((allN3 n ls).take (j + 1)).filter (tBad box coin cs)) (j + 1))
        rw [hno]
        refine Shr.kp2 ?_ (ttS_kp n coin box ls cs _ _) (T.le_refl _) (ttO_kp n coin box ls cs A (j + 1))
        show T.le ((.n (.n (.n .e (some (slT3 A)) .e) (some (.pt .h 0 0)) .e) none (.n (.n .e (some (.i .i64 ((j + 1 : Nat) : Int))) .e) none .e)) : T D) _
        (repeat' first | exact T.le_e _ | refine T.le_some ?_ rfl ?_ | refine T.le_none ?_ ?_)
    | true =>
    rw [hc] at cC
    have hf : tBad box coin cs x = true := by rw [hbad, hp, hc]; rfl
    rw [hf, cond_true] at hnext
    cases A with
    | nil =>
      repeat' first | ((first | with_reducible apply WB.tt | with_reducible apply WB.ff | refine Rn.seq ?_ | refine Rn.reg ?_ | refine Rn.drw ?_ | refine Rn.blk ?_ | refine Rn.skip ?_ | refine Rn.ret ?_ | refine Rn.exit ?_ | refine Rn.cond rfl ?_ | refine And.intro (InR.i64 (by omega) (by omega)) ?_ | refine And.intro (show _ ≠ (0 : Int) by omega) ?_ | refine WIx.intsN (by omega) ?_ | refine WIx.rowsN (by omega) ?_ | refine WCall.pure (cP) ?_ | refine WCall.pure (cC) ?_) <;> conv => whnf)
      refine WSt.app_first (r := [_]) rfl (.inl rfl) rfl rfl rfl rfl ?_; conv => whnf
      repeat' first | ((first | with_reducible apply WB.tt | with_reducible apply WB.ff | refine Rn.seq ?_ | refine Rn.reg ?_ | refine Rn.drw ?_ | refine Rn.blk ?_ | refine Rn.skip ?_ | refine Rn.ret ?_ | refine Rn.exit ?_ | refine Rn.cond rfl ?_ | refine And.intro (InR.i64 (by omega) (by omega)) ?_ | refine And.intro (show _ ≠ (0 : Int) by omega) ?_ | refine WIx.intsN (by omega) ?_ | refine WIx.rowsN (by omega) ?_) <;> conv => whnf)
      refine Again.to (j + 1) (by omega) (by omega) ?_ ?_
      · show (nxT3 (((allN3 n ls).take j).filter (tBad box coin cs))).nat ≤ (nxT3 (((allN3 n ls).take (j + 1)).filter (tBad box coin cs))).nat
        rw [hA, hnext]; exact hup _
      · show Shr _ (ttS n coin box ls cs (((allN3 n ls).take (j + 1)).filter (tBad box coin cs)) (j + 1))
        rw [hnext]
        refine Shr.kp2 ?_ (ttS_kp n coin box ls cs _ _) ?_ (ttO_kp n coin box ls cs [x] (j + 1))
        · show T.le ((.n (.n (.n .e (some (.sl (.i .h) 0 1 0 1)) .e) (some (.pt .h 0 0)) .e) none (.n (.n .e (some (.i .i64 ((j + 1 : Nat) : Int))) .e) none .e)) : T D) _
          (repeat' first | exact T.le_e _ | refine T.le_some ?_ rfl ?_ | refine T.le_none ?_ ?_)
        · show T.le (T.n .e (some (bkC n coin box ls cs)) (.n .e (some (.cells false [.o (.lst 3 (rows lnD x)) 0] 1)) .e)) _
          (repeat' first | exact T.le_e _ | refine T.le_some ?_ rfl ?_ | refine T.le_none ?_ ?_)
    | cons a s =>
      repeat' first | ((first | with_reducible apply WB.tt | with_reducible apply WB.ff | refine Rn.seq ?_ | refine Rn.reg ?_ | refine Rn.drw ?_ | refine Rn.blk ?_ | refine Rn.skip ?_ | refine Rn.ret ?_ | refine Rn.exit ?_ | refine Rn.cond rfl ?_ | refine And.intro (InR.i64 (by omega) (by omega)) ?_ | refine And.intro (show _ ≠ (0 : Int) by omega) ?_ | refine WIx.intsN (by omega) ?_ | refine WIx.rowsN (by omega) ?_ | refine WCall.pure (cP) ?_ | refine WCall.pure (cC) ?_) <;> conv => whnf)
      refine WSt.app_one (ds := tlDs (a :: s)) (r := [_]) rfl rfl rfl rfl rfl rfl (by simp [tlDs]) rfl rfl (by simp at hAl; omega) rfl ?_; conv => whnf
      repeat' first | ((first | with_reducible apply WB.tt | with_reducible apply WB.ff | refine Rn.seq ?_ | refine Rn.reg ?_ | refine Rn.drw ?_ | refine Rn.blk ?_ | refine Rn.skip ?_ | refine Rn.ret ?_ | refine Rn.exit ?_ | refine Rn.cond rfl ?_ | refine And.intro (InR.i64 (by omega) (by omega)) ?_ | refine And.intro (show _ ≠ (0 : Int) by omega) ?_ | refine WIx.intsN (by omega) ?_ | refine WIx.rowsN (by omega) ?_) <;> conv => whnf)
      refine Again.to (j + 1) (by omega) (by omega) ?_ ?_
      · show (nxT3 (((allN3 n ls).take j).filter (tBad box coin cs))).nat ≤ (nxT3 (((allN3 n ls).take (j + 1)).filter (tBad box coin cs))).nat
        rw [hA, hnext]; exact hup _
      · show Shr _ (ttS n coin box ls cs (((allN3 n ls).take (j + 1)).filter (tBad box coin cs)) (j + 1))
        rw [hnext, List.cons_append]
        refine Shr.of ?_ ?_ rfl rfl
        · show Rel _ _ ((.n (.n (.n .e (some (slT3 (a :: (s ++ [x])))) .e) (some (.pt .h 0 0)) .e) none (.n (.n .e (some (.i .i64 ((j + 1 : Nat) : Int))) .e) none .e)) : T D) _
          rw [slT3_snoc]
          (repeat' first | exact Rel.e | refine Rel.some ?_ ?_ ?_ | refine Rel.none ?_ ?_)
          all_goals show Fz _ _ _ _
          all_goals first | exact .pu trivial | exact .ksl (show _ < 4 by simp [Pos.nat]) | exact .kpt (show _ < 4 by simp [Pos.nat])
        · show Rel _ _ (T.n .e (some (bkC n coin box ls cs)) (.n .e (blT3 (a :: (s ++ [x]))) .e)) _
          rw [blT3_snoc]
          (repeat' first | exact Rel.e | refine Rel.some ?_ ?_ ?_ | refine Rel.none ?_ ?_)
          · exact RO'.of (show _ < 4 by simp [Pos.nat]) (ShC.kp (bkC_kp _ _ _ _ _ _))
          · refine RO'.of (show _ < 4 by simp [Pos.nat]) ?_
            exact ShC.grownF (by omega) (pu_tlDs _) (.pu (pu_ln _))
  · repeat' first | ((first | with_reducible apply WB.tt | with_reducible apply WB.ff | refine Rn.seq ?_ | refine Rn.reg ?_ | refine Rn.drw ?_ | refine Rn.blk ?_ | refine Rn.skip ?_ | refine Rn.ret ?_ | refine Rn.exit ?_ | refine Rn.cond rfl ?_ | refine And.intro (InR.i64 (by omega) (by omega)) ?_ | refine And.intro (show _ ≠ (0 : Int) by omega) ?_ | refine WIx.intsN (by omega) ?_ | refine WIx.rowsN (by omega) ?_) <;> conv => whnf)
    have he := hend (by omega)
    subst he
    refine Fin.t (.inr rfl) rfl ?_
    cases hT : refT (B5 n coin box ls cs) with
    | nil => exact .ns
    | cons a s =>
      exact Frz.whole (cs := (tlDs (a :: s)).map fun d => Cell.o d s.length) (cur := s.length + 1) rfl (by simp [rows]) (tl_one _) (by rw [tl_flat]) (pu_tl _)
theorem hasB_nil {B : Bk} (V : VB B) : hasB B = true ↔ refT B ≠ [] := by
  unfold hasB
  rw [can_iff]
  constructor
  · rintro ⟨X, h⟩ he
    have := (refT_ext V).2 (mem_exT.2 h)
    rw [he] at this; cases this
  · intro h
    obtain ⟨X, s, hs⟩ := List.exists_cons_of_ne_nil h
    have : X ∈ refT B := by rw [hs]; exact List.mem_cons_self
    exact ⟨X, mem_exT.1 ((refT_ext V).1 this)⟩
end Go.Ev

namespace Go.Ev
open Go.Proofs
set_option maxRecDepth 100000
theorem foldl_minJ : ∀ (L : List Int) (a : Int), L.foldl min a ≤ a ∧ (∀ x ∈ L, L.foldl min a ≤ x) ∧ (L.foldl min a = a ∨ L.foldl min a ∈ L)
  | [], a => ⟨Int.le_refl _, fun x h => absurd h (by simp), .inl rfl⟩
  | y :: L, a => by
    obtain ⟨h1, h2, h3⟩ := foldl_minJ L (min a y)
    refine ⟨by show L.foldl min (min a y) ≤ a; omega, fun x hx => ?_, ?_⟩
    · show L.foldl min (min a y) ≤ x
      rcases List.mem_cons.1 hx with rfl | hx
      · omega
      · exact h2 x hx
    · show L.foldl min (min a y) = a ∨ L.foldl min (min a y) ∈ y :: L
      rcases h3 with h3 | h3
      · by_cases h : a ≤ y
        · left; omega
        · right; rw [h3, show min a y = y by omega]; exact List.mem_cons_self
      · exact .inr (List.mem_cons_of_mem _ h3)
theorem foldl_maxJ : ∀ (L : List Int) (a : Int), a ≤ L.foldl max a ∧ (∀ x ∈ L, x ≤ L.foldl max a) ∧ (L.foldl max a = a ∨ L.foldl max a ∈ L)
  | [], a => ⟨Int.le_refl _, fun x h => absurd h (by simp), .inl rfl⟩
  | y :: L, a => by
    obtain ⟨h1, h2, h3⟩ := foldl_maxJ L (max a y)
    refine ⟨by show a ≤ L.foldl max (max a y); omega, fun x hx => ?_, ?_⟩
    · show x ≤ L.foldl max (max a y)
      rcases List.mem_cons.1 hx with rfl | hx
      · omega
      · exact h2 x hx
    · show L.foldl max (max a y) = a ∨ L.foldl max (max a y) ∈ y :: L
      rcases h3 with h3 | h3
      · by_cases h : y ≤ a
        · left; omega
        · right; rw [h3, show max a y = y by omega]; exact List.mem_cons_self
      · exact .inr (List.mem_cons_of_mem _ h3)
theorem getD0_mem {A : List Int} (h : A ≠ []) : A.getD 0 0 ∈ A := getD_mem (by cases A with | nil => exact absurd rfl h | cons a s => simp)
theorem mem_ans {B : Bk} (V : VB B) {aft : Nat} {ak : Mo → Int} {g : List Ln → Int} (hg : ∀ X, ak (moR B.box B.coin X aft) = g X) (x : Int) : x ∈ ansL B aft ak ↔ x ∈ (refT B).map g := by
  unfold ansL
  rw [List.mem_map, List.mem_map]
  constructor
  · rintro ⟨X, h, rfl⟩
    exact ⟨X, (refT_ext V).2 h, (hg X).symm⟩
  · rintro ⟨X, h, rfl⟩
    exact ⟨X, (refT_ext V).1 h, hg X⟩
theorem ans_ne {B : Bk} {aft : Nat} {ak : Mo → Int} (h : exT B B.ls.length [] ≠ []) : ansL B aft ak ≠ [] := by
  unfold ansL
  intro he
  exact h (List.map_eq_nil_iff.1 he)
end Go.Ev

namespace Go.Ev
open Go.Proofs
set_option maxRecDepth 100000
theorem Fz.whole {B : Pos → Prop} {ob : T C} {id : Pos} {z st : Nat} {cs : List Cell} {cur : Nat} {es : List (List D)} {n : Nat} (hB : ¬ B id) (h : ob.get id = some (.cells false cs cur)) (hn : n = es.length) (hz : ∀ r ∈ es, r.length = z) (hc : cs = es.flatten.map fun d => Cell.o d st) (hp : PuE es) : Fz B ob (.sl id 0 n st z) (.lst z es) := by
  subst hc
  refine .sl hB h hn.symm hz (fun k d hk => ⟨.o d st, ?_, ?_, rfl⟩) (FzE.of hp)
  · rw [List.drop_zero, List.getElem?_map, hk]; rfl
  · show Nat.ble st st = true
    exact Nat.ble_eq_true_of_le (Nat.le_refl _)
end Go.Ev

namespace Go.Ev
open Go.Proofs
set_option maxRecDepth 100000
end Go.Ev

namespace Go.Ev
open Go.Proofs
set_option maxRecDepth 100000
def cP (m : Nat) (c : Int) (t : List Ln) : Bool := decide (0 ≤ cOut t c m)
theorem sE_false {n coin box : Int} {ls : List Ln} {cs : List Ct} (h : faultT n coin box ls cs = 0) (hb : hasB (B5 n coin box ls cs) = false) : sE n coin box ls cs true = 11 := by unfold sE; rw [if_neg (fun k => k h), hb]; rfl
theorem sE_true {n coin box : Int} {ls : List Ln} {cs : List Ct} (h : faultT n coin box ls cs = 0) (hb : hasB (B5 n coin box ls cs) = true) : sE n coin box ls cs true = 0 := by unfold sE; rw [if_neg (fun k => k h), hb]; rfl
end Go.Ev

namespace Go.Ev
open Go.Proofs
set_option maxRecDepth 1000000
noncomputable def rc54 : RC := (.seq (.reg [(.u (.box p2 (.t p1))), (.u (.mv p3 (.k (.b false))))]) (.seq (.reg [(.u (.ldn p4 (.t p2) 5)), (.u (.cf (some p5) p21 [(.t p4)])), (.u (.mv p6 (.t p5))), (.g p6 true (some p7) (.ldn p7 (.t p2) 5)), (.g p6 true (some p8) (.cf (some p8) p70 [(.t p7)])), (.g p6 true (some p9) (.bin p9 .eql (.t p8) (.k (.i .i64 0)))), (.u (.pick p10 (.t p6) (.t p9) (.k (.b false)))), (.u (.mv p3 (.t p10)))]) .ret))
def rs54 : List RR := [(.t p3)]
theorem fn54 : FnOk Try.prog p55.ix 10 rc54 rs54 := ⟨Try.f54, bodyC Try.f54, Try.func54, by kernel_rfl, by kernel_rfl, by kernel_rfl, by kernel_rfl, by kernel_rfl⟩
end Go.Ev

namespace Go.Ev
set_option maxRecDepth 100000
theorem WSt.shlN {sl : T D} {ob : T C} {nx : Pos} {lg : Option (T Bool)} {K : X → Prop} {d : Pos} {a j : Nat} {x y : RX} (hx : opd sl x = some (.i .i64 (a : Int))) (hy : opd sl y = some (.i .u64 (j : Int))) (ha : a * 2 ^ j ≤ 1000) (hj : j ≤ 63) (k : wOut sl ob nx lg d K (.i .i64 ((a * 2 ^ j : Nat) : Int))) : WSt (.bin d .shl x y) ⟨sl, ob, nx, lg⟩ K := by
  obtain ⟨k2, k3⟩ := wOut_ok k
  refine ⟨_, ?_, k3⟩
  show s_bin d .shl x y sl ob nx lg = _
  unfold s_bin
  rw [hx, hy]
  have hm : minN j 64 = j := by
    unfold minN
    rw [Nat.ble_eq_true_of_le (show j ≤ 64 by omega)]
    rfl
  have hs : ishl ((a : Nat) : Int) j = ((a * 2 ^ j : Nat) : Int) := rfl
  show wrapK .i64 (ishl ((a : Nat) : Int) (minN j 64)) _ = _
  rw [hm, hs, wrapK_eq]
  have hw : IntKind.i64.wrap ((a * 2 ^ j : Nat) : Int) = ((a * 2 ^ j : Nat) : Int) := InR.i64 (by omega) (by omega)
  rw [hw]
  exact k2
theorem ibit_nat (slow : IntKind → Int → Int → Int) (fast : IntKind → Nat → Nat → Nat) (k : IntKind) (m n : Nat) (h1 : Nat.ble m (ubits k) = true) (h2 : Nat.ble n (ubits k) = true) : ibit slow fast k (.ofNat m) (.ofNat n) = .ofNat (fast k m n) := by
  show (bif Nat.ble m (ubits k) && Nat.ble n (ubits k) then Int.ofNat (fast k m n) else slow k (.ofNat m) (.ofNat n)) = _
  rw [h1, h2]
  rfl
theorem binK_or (a b : Int) (f : D → Option X) : binK .or (.i .i64 a) (.i .i64 b) f = wrapK .i64 (ior .i64 a b) f := rfl
theorem WSt.orN {sl : T D} {ob : T C} {nx : Pos} {lg : Option (T Bool)} {K : X → Prop} {d : Pos} {a b : Nat} {x y : RX} (hx : opd sl x = some (.i .i64 (a : Int))) (hy : opd sl y = some (.i .i64 (b : Int))) (ha : a < 16) (hb : b < 16) (k : wOut sl ob nx lg d K (.i .i64 ((a ||| b : Nat) : Int))) : WSt (.bin d .or x y) ⟨sl, ob, nx, lg⟩ K := by
  obtain ⟨k2, k3⟩ := wOut_ok k
  refine ⟨_, ?_, k3⟩
  show s_bin d .or x y sl ob nx lg = _
  unfold s_bin
  rw [hx, hy]
  have hs : ior .i64 ((a : Nat) : Int) ((b : Nat) : Int) = ((a ||| b : Nat) : Int) := by
    have h1 : Nat.ble a (ubits .i64) = true := Nat.ble_eq_true_of_le (Nat.le_trans (show a ≤ 15 by omega) (of_decide_eq_true rfl))
    have h2 : Nat.ble b (ubits .i64) = true := Nat.ble_eq_true_of_le (Nat.le_trans (show b ≤ 15 by omega) (of_decide_eq_true rfl))
    exact ibit_nat slowOr (fun _ m n => Nat.lor m n) .i64 a b h1 h2
  have hlt : a ||| b < 2 ^ 4 := Nat.or_lt_two_pow (by omega) (by omega)
  show binK .or (.i .i64 ((a : Nat) : Int)) (.i .i64 ((b : Nat) : Int)) _ = _
  rw [binK_or, hs, wrapK_eq]
  have hw : IntKind.i64.wrap ((a ||| b : Nat) : Int) = ((a ||| b : Nat) : Int) := InR.i64 (by omega) (by omega)
  rw [hw]
  exact k2
theorem bits_or {m j q : Nat} : (m ||| 1 * 2 ^ j).testBit q = (m.testBit q || decide (j = q)) := by
  rw [Nat.testBit_or, Nat.one_mul, Nat.testBit_two_pow]
theorem bits_all : ∀ m : Nat, m < 16 → m.testBit 0 = true → m.testBit 1 = true → m.testBit 2 = true → m.testBit 3 = true → m = 15 := by decide
end Go.Ev

namespace Go.Ev
open Go.Proofs
theorem fit_lines : ∀ {es : List (List D)}, (∀ x ∈ es, FitL [.i .i64, .i .i64, .i .i64] x) → ∃ l : List Ln, es = rows lnD l ∧ ∀ r ∈ l, lnWf r
  | [], _ => ⟨[], rfl, fun r h => by cases h⟩
  | x :: es, h => by
    obtain ⟨l, rfl, hl⟩ := fit_lines (es := es) fun y hy => h y (by simp [hy])
    have h1 := h x (by simp)
    simp only [FitL, FitC] at h1
    obtain ⟨d, ds, rfl, ⟨n1, rfl, w1⟩, d2, ds2, rfl, ⟨n2, rfl, w2⟩, d3, ds3, rfl, ⟨n3, rfl, w3⟩, rfl⟩ := h1
    refine ⟨⟨n1, n2, n3⟩ :: l, rfl, fun r hr => ?_⟩
    rcases List.mem_cons.1 hr with rfl | hr
    · exact ⟨wfB_of w1, wfB_of w2, wfB_of w3⟩
    · exact hl r hr
theorem fit_counts : ∀ {es : List (List D)}, (∀ x ∈ es, FitL [.i .i64, .i .i64, .i .i64] x) → ∃ l : List Ct, es = rows ctD l
  | [], _ => ⟨[], rfl⟩
  | x :: es, h => by
    obtain ⟨l, rfl⟩ := fit_counts (es := es) fun y hy => h y (by simp [hy])
    have h1 := h x (by simp)
    simp only [FitL, FitC] at h1
    obtain ⟨d, ds, rfl, ⟨n1, rfl, w1⟩, d2, ds2, rfl, ⟨n2, rfl, w2⟩, d3, ds3, rfl, ⟨n3, rfl, w3⟩, rfl⟩ := h1
    exact ⟨⟨n1, n2, n3⟩ :: l, rfl⟩
theorem FitP.book {ps : List (Bool × List CK)} {ds : List D} (h : FitP ((true, [.i .i64, .i .i64, .i .i64, .sl [.i .i64, .i .i64, .i .i64], .sl [.i .i64, .i .i64, .i .i64]]) :: ps) ds) : ∃ n coin box ls cs ds', ds = .ag [.i .i64 n, .i .i64 coin, .i .i64 box, .lst 3 (rows lnD ls), .lst 3 (rows ctD cs)] :: ds' ∧ FitP ps ds' := by
  unfold FitP at h
  obtain ⟨es, ds', rfl, h1, h2⟩ := h
  simp only [FitL, FitC] at h1
  obtain ⟨d, ds, rfl, ⟨n1, rfl, _⟩, d2, ds2, rfl, ⟨n2, rfl, _⟩, d3, ds3, rfl, ⟨n3, rfl, _⟩, d4, ds4, rfl, ⟨e4, rfl, k4⟩, d5, ds5, rfl, ⟨e5, rfl, k5⟩, rfl⟩ := h1
  obtain ⟨ls, rfl, _⟩ := fit_lines fun x hx => by have := k4 x hx; simpa only [FitL, FitC] using this
  obtain ⟨cs, rfl⟩ := fit_counts fun x hx => by have := k5 x hx; simpa only [FitL, FitC] using this
  exact ⟨n1, n2, n3, ls, cs, ds', rfl, h2⟩
end Go.Ev

namespace Go.Ev
open Go.Proofs
set_option maxRecDepth 100000
def readyB (n coin box : Int) (ls : List Ln) (cs : List Ct) : Bool := thinT n coin box ls cs && decide (faultT n coin box ls cs = 0)
theorem j_ready (n coin box : Int) (ls : List Ln) (cs : List Ct) : PureF Try.prog p55.ix [.ag (bk5 n coin box ls cs)] (.b (readyB n coin box ls cs)) := by
  have iT := j_Thin n coin box ls cs
  have iF := j_Fault n coin box ls cs
  unfold readyB
  refine PureF.run fn54 (by simp) (by simp [PuL, Pu, bk5, pu_ln, pu_ct]) ?_; conv => whnf
  cases hT : thinT n coin box ls cs with
  | false =>
    rw [hT] at iT
    repeat' first | ((first | with_reducible apply WB.tt | with_reducible apply WB.ff | refine Rn.seq ?_ | refine Rn.reg ?_ | refine Rn.drw ?_ | refine Rn.blk ?_ | refine Rn.skip ?_ | refine Rn.ret ?_ | refine Rn.exit ?_ | refine Rn.cond rfl ?_ | refine And.intro (InR.i64 (by omega) (by omega)) ?_ | refine And.intro (show _ ≠ (0 : Int) by omega) ?_ | refine WIx.intsN (by omega) ?_ | refine WIx.rowsN (by omega) ?_ | refine WCall.pure (iT) ?_) <;> conv => whnf)
    exact Fin.b rfl rfl
  | true =>
    rw [hT] at iT
    repeat' first | ((first | with_reducible apply WB.tt | with_reducible apply WB.ff | refine Rn.seq ?_ | refine Rn.reg ?_ | refine Rn.drw ?_ | refine Rn.blk ?_ | refine Rn.skip ?_ | refine Rn.ret ?_ | refine Rn.exit ?_ | refine Rn.cond rfl ?_ | refine And.intro (InR.i64 (by omega) (by omega)) ?_ | refine And.intro (show _ ≠ (0 : Int) by omega) ?_ | refine WIx.intsN (by omega) ?_ | refine WIx.rowsN (by omega) ?_ | refine WCall.pure (iT) ?_ | refine WCall.pure (iF) ?_) <;> conv => whnf)
    exact Fin.b rfl rfl
theorem ready_of {n coin box : Int} {ls : List Ln} {cs : List Ct} (h : readyB n coin box ls cs = true) : ls.length ≤ 8 ∧ cs.length ≤ 4 ∧ faultT n coin box ls cs = 0 := by
  unfold readyB at h
  rw [Bool.and_eq_true, decide_eq_true_iff] at h
  obtain ⟨f1, f2, _, _⟩ := fault_okT h.2
  exact ⟨f1, f2, h.2⟩
theorem hasB_false {B : Bk} (V : VB B) (h : hasB B = false) : refT B = [] := by
  have hh := hasB_nil V
  cases hT : refT B with
  | nil => rfl
  | cons a s =>
    have := hh.2 (by rw [hT]; exact List.cons_ne_nil _ _)
    rw [h] at this; cases this
theorem fold_mem {A : List Int} (hne : A ≠ []) : A.foldl min (A.getD 0 0) ∈ A ∧ A.foldl max (A.getD 0 0) ∈ A := by
  have hA := getD0_mem hne
  obtain ⟨a1, a2, a3⟩ := foldl_minJ A (A.getD 0 0)
  obtain ⟨c1, c2, c3⟩ := foldl_maxJ A (A.getD 0 0)
  constructor
  · rcases a3 with h | h
    · rw [h]; exact hA
    · exact h
  · rcases c3 with h | h
    · rw [h]; exact hA
    · exact h
end Go.Ev
