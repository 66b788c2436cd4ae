import Derived.Test.YtpemagogcagipaaEvMA
set_option linter.all false
namespace Go.Ev
open Go.Proofs
set_option maxRecDepth 100000
def th3 : Pos := .i .h
def sl3 : List (List Int) → D
  | [] => .ns
  | _ :: s => .sl th3 0 (s.length + 1) s.length 1
def bl3 : List (List Int) → Option C
  | [] => none
  | a :: s => some (.cells false ((tDs (a :: s)).map fun d => Cell.o d s.length) (s.length + 1))
def nx3 : List (List Int) → Pos
  | [] => .o .h
  | _ :: _ => .o (.o .h)
theorem sl3_kp (A : List (List Int)) : Kp (nx3 A).nat (sl3 A) := by
  cases A <;> simp [sl3, nx3, Kp, th3, Pos.nat, Pu]
theorem nx3_two (A : List (List Int)) : 2 ≤ (nx3 A).nat := by cases A <;> simp [nx3, Pos.nat]
theorem nx3_up (A A' : List (List Int)) : (nx3 A).nat ≤ (nx3 (A ++ A')).nat := by
  cases A with
  | nil => cases A' <;> simp [nx3, Pos.nat]
  | cons a A => simp [nx3]
theorem tDs_kp (n st : Nat) (L : List (List Int)) : ∀ c ∈ (tDs L).map (fun d => Cell.o d st), Kp n c.d := fun c hc => by
  obtain ⟨d, hd, rfl⟩ := List.mem_map.1 hc
  obtain ⟨x, _, rfl⟩ := List.mem_map.1 hd
  simp [Kp, Pu, Cell.d, pu_ints]
theorem bl3_snoc (a : List Int) (s : List (List Int)) (x : List Int) : bl3 (a :: (s ++ [x])) = some (.cells false ((tDs (a :: s) ++ [D.lst 1 (ints x)]).map fun d => Cell.o d (s.length + 1)) (s.length + 1 + 1)) := by
  simp [bl3, tDs]
theorem sl3_snoc (a : List Int) (s : List (List Int)) (x : List Int) : sl3 (a :: (s ++ [x])) = .sl th3 0 (s.length + 1 + 1) (s.length + 1) 1 := by
  simp [sl3]
def allN (hs : List Rg) : List (List Int) := (List.range (manyR hs).toNat).map fun n : Nat => nthR hs (n : Int)
def listsR (hs : List Rg) (step : Int) : List (List Int) := (allN hs).filter (nearB step)
theorem allN_length (hs : List Rg) : (allN hs).length = (manyR hs).toNat := by simp [allN]
theorem allN_at {hs : List Rg} {j : Nat} (h : j < (manyR hs).toNat) : (allN hs).getD j [] = nthR hs (j : Int) := by
  simp [allN, List.getD, h]
theorem nthR_hts : ∀ (hs : List Rg) (n : Int), Vr hs → 0 ≤ n → Hts (nthR hs n)
  | [], n, _, _ => fun x h => by simp [nthR] at h
  | r :: hs, n, hv, h0 => fun x h => by
    have hz := hv.sz (r := r) (by simp)
    have hr := hv r (by simp)
    have m1 := Int.tmod_nonneg (szR r) h0
    have m2 := Int.tmod_lt_of_pos n (show 0 < szR r by omega)
    rcases List.mem_cons.1 h with h | h
    · subst h; unfold szR at *; omega
    · exact nthR_hts hs _ (fun y hy => hv y (by simp [hy])) (quo_le h0 (Int.le_refl _) (show 0 < szR r by omega)).1 x h
section
variable (last : Int) (hs : List Rg) (step : Int) (lv : List Int) (ms : List Mk)
def tabC : C := .cells false [.o (.i .i64 last) 0, .o (.lst 2 (rows rgD hs)) 0, .o (.i .i64 step) 0, .o (.lst 1 (ints lv)) 0, .o (.lst 4 (rows mkD ms)) 0] 1
theorem tabC_kp (n : Nat) : KpC n (tabC last hs step lv ms) := by
  refine KpL.all ?_
  simp [tabC, KpL, Kp, Cell.d, Pu, pu_ints, pu_rg, pu_mk]
theorem tabC_sh {B : Pos → Prop} {ob : T C} : ShC B ob (tabC last hs step lv ms) (tabC last hs step lv ms) := ShC.same (ShC.cn (.pu trivial) (ShC.cn (.pu (pu_rg _)) (ShC.cn (.pu trivial) (ShC.cn (.pu (pu_ints _)) (ShC.cn (.pu (pu_mk _)) ShC.nl)))))
def lsS (A : List (List Int)) (j : Nat) : X := ⟨(.n (.n (.n .e (some (sl3 A)) .e) (some (.pt .h 0 0)) .e) none (.n (.n .e (some (.i .i64 (j : Int))) .e) none .e)), .n .e (some (tabC last hs step lv ms)) (.n .e (bl3 A) .e), nx3 A, none⟩
theorem lsS_kp (A : List (List Int)) (j : Nat) : ∀ s d, (lsS last hs step lv ms A j).sl.get s = some d → Kp (nx3 A).nat d := by
  have h2 := nx3_two A
  show TAll (fun _ d => Kp (nx3 A).nat d) _
  unfold lsS
  repeat' first | exact TAll.e | refine TAll.some ?_ ?_ ?_ | refine TAll.none ?_ ?_
  all_goals first | exact sl3_kp A | (simp [Kp, Pu, Pos.nat]; done) | (simp [Kp, Pos.nat]; omega)
theorem lsO_kp (A : List (List Int)) (j : Nat) : KpO (nx3 A).nat (lsS last hs step lv ms A j).ob := by
  cases A with
  | nil =>
    show TAll (fun id c => id.nat < 2 ∧ KpC 2 c) _
    unfold lsS bl3
    refine TAll.some TAll.e ⟨by simp [Pos.nat], tabC_kp last hs step lv ms _⟩ (TAll.none TAll.e TAll.e)
  | cons a s =>
    show TAll (fun id c => id.nat < 4 ∧ KpC 4 c) _
    unfold lsS bl3
    refine TAll.some TAll.e ⟨by simp [Pos.nat], tabC_kp last hs step lv ms _⟩ (TAll.some TAll.e ⟨by simp [Pos.nat], tDs_kp _ _ _⟩ TAll.e)
end
set_option maxHeartbeats 1000000 in
theorem c_Lists (last : Int) (hs : List Rg) (step : Int) (lv : List Int) (ms : List Mk) (hv : Vr hs) (hl : hs.length ≤ 1000) : PureF Try.prog p57.ix [.ag [.i .i64 last, .lst 2 (rows rgD hs), .i .i64 step, .lst 1 (ints lv), .lst 4 (rows mkD ms)]] (.lst 1 (rows tD (listsR hs step))) := by
  have hal := allN_length hs
  have hm : 1 ≤ manyR hs ∧ manyR hs ≤ 3000 := many_bd hs 1 hv (by omega) (by omega)
  refine PureF.run fn56 (by simp) (by simp [PuL, PuE, Pu, pu_ints, pu_rg, pu_mk]) ?_; conv => whnf
  repeat' first | ((first | (with_reducible first | apply WB.tt | apply WB.ff) | apply Rn.seq | apply Rn.reg | apply Rn.drw | apply Rn.blk | apply Rn.skip | apply Rn.ret | apply Rn.exit | apply Rn.cond rfl | refine i64_ (by omega) (by omega) ?_ | refine ne0_ (by omega) ?_ | refine WIx.intsN (by omega) ?_ | refine WIx.rowsN (by omega) ?_) <;> conv => whnf)
  refine Rn.loop (fun j : Nat => lsS last hs step lv ms (((allN hs).take j).filter (nearB step)) j) (fun j => j ≤ (manyR hs).toNat) (fun j => (manyR hs).toNat - j) 0 ?_ ?_ ?_
  · refine X.le.mk ?_ (T.le_some (T.le_e _) rfl (T.le_ee (T.le_e _) (T.le_e _))) (Nat.le_refl _) rfl rfl
    show T.le ((.n (.n (.n .e (some (.ns)) .e) (some (.pt .h 0 0)) .e) none (.n (.n .e (some (.i .i64 (0 : Int))) .e) none .e)) : T D) _
    (repeat' first | exact T.le_e _ | refine T.le_some ?_ rfl ?_ | refine T.le_none ?_ ?_)
  · exact Nat.zero_le _
  intro j hj
  have hj : j ≤ (manyR hs).toNat := hj
  have hAl : (((allN hs).take j).filter (nearB step)).length ≤ 3000 := by
    have h1 := List.length_filter_le (nearB step) ((allN hs).take j)
    rw [List.length_take] at h1
    omega
  have hend : j = (manyR hs).toNat → ((allN hs).take j).filter (nearB step) = listsR hs step := fun e => by rw [e, ← hal, List.take_length]; rfl
  have hnext := fun h => filter_take_succ (p := nearB step) (l := allN hs) (j := j) (d := []) h
  have hN := c_Nth last hs step lv ms (j : Int) hv hl (by omega) (by omega)
  generalize hA : ((allN hs).take j).filter (nearB step) = A at *
  conv => whnf
  repeat' first | ((first | (with_reducible first | apply WB.tt | apply WB.ff) | apply Rn.seq | apply Rn.reg | apply Rn.drw | apply Rn.blk | apply Rn.skip | apply Rn.ret | apply Rn.exit | apply Rn.cond rfl | refine i64_ (by omega) (by omega) ?_ | refine ne0_ (by omega) ?_ | refine WIx.intsN (by omega) ?_ | refine WIx.rowsN (by omega) ?_ | refine WCall.pure (c_Many last hs step lv ms hv hl) ?_) <;> conv => whnf)
  refine WB.dec (fun h => ?_) (fun h => ?_) <;> conv => whnf
  · have hlt : j < (manyR hs).toNat := by omega
    have hnext := hnext (by omega)
    rw [allN_at hlt] at hnext
    have hup := nx3_up A
    have hx1 : Hts (nthR hs (j : Int)) := nthR_hts hs _ hv (by omega)
    have hx2 : (nthR hs (j : Int)).length ≤ 1000 := by rw [nthR_length]; exact hl
    generalize nthR hs (j : Int) = x at *
    repeat' first | ((first | (with_reducible first | apply WB.tt | apply WB.ff) | apply Rn.seq | apply Rn.reg | apply Rn.drw | apply Rn.blk | apply Rn.skip | apply Rn.ret | apply Rn.exit | apply Rn.cond rfl | refine i64_ (by omega) (by omega) ?_ | refine ne0_ (by omega) ?_ | refine WIx.intsN (by omega) ?_ | refine WIx.rowsN (by omega) ?_ | refine WCall.pure (hN) ?_ | refine WCall.pure (c_Near last hs step lv ms x hx1 hx2) ?_) <;> conv => whnf)
    refine WB.mk (fun h => ?_) (fun h => ?_) <;> conv => whnf
    · have hf : nearB step x = true := h
      rw [hf, cond_true] at hnext
      cases A with
      | nil =>
        repeat' first | ((first | (with_reducible first | apply WB.tt | apply WB.ff) | apply Rn.seq | apply Rn.reg | apply Rn.drw | apply Rn.blk | apply Rn.skip | apply Rn.ret | apply Rn.exit | apply Rn.cond rfl | refine i64_ (by omega) (by omega) ?_ | refine ne0_ (by omega) ?_ | refine WIx.intsN (by omega) ?_ | refine WIx.rowsN (by omega) ?_) <;> conv => whnf)
        refine WSt.app_first (r := [_]) rfl (.inl rfl) rfl rfl rfl rfl ?_; conv => whnf
        repeat' first | ((first | (with_reducible first | apply WB.tt | apply WB.ff) | apply Rn.seq | apply Rn.reg | apply Rn.drw | apply Rn.blk | apply Rn.skip | apply Rn.ret | apply Rn.exit | apply Rn.cond rfl | refine i64_ (by omega) (by omega) ?_ | refine ne0_ (by omega) ?_ | refine WIx.intsN (by omega) ?_ | refine WIx.rowsN (by omega) ?_) <;> conv => whnf)
        refine Again.to (j + 1) (by omega) (by omega) ?_ ?_
        · show (nx3 (((allN hs).take j).filter (nearB step))).nat ≤ (nx3 (((allN hs).take (j + 1)).filter (nearB step))).nat
          rw [hA, hnext]; exact hup _
        · show Shr _ (lsS last hs step lv ms (((allN hs).take (j + 1)).filter (nearB step)) (j + 1))
          rw [hnext]
          refine Shr.kp2 ?_ (lsS_kp last hs step lv ms _ _) ?_ (lsO_kp last hs step lv ms [x] (j + 1))
          · show T.le ((.n (.n (.n .e (some (.sl th3 0 1 0 1)) .e) (some (.pt .h 0 0)) .e) none (.n (.n .e (some (.i .i64 ((j + 1 : Nat) : Int))) .e) none .e)) : T D) _
            (repeat' first | exact T.le_e _ | refine T.le_some ?_ rfl ?_ | refine T.le_none ?_ ?_)
          · show T.le (T.n .e (some (tabC last hs step lv ms)) (.n .e (some (.cells false [.o (.lst 1 (ints x)) 0] 1)) .e)) _
            (repeat' first | exact T.le_e _ | refine T.le_some ?_ rfl ?_ | refine T.le_none ?_ ?_)
      | cons a s =>
        repeat' first | ((first | (with_reducible first | apply WB.tt | apply WB.ff) | apply Rn.seq | apply Rn.reg | apply Rn.drw | apply Rn.blk | apply Rn.skip | apply Rn.ret | apply Rn.exit | apply Rn.cond rfl | refine i64_ (by omega) (by omega) ?_ | refine ne0_ (by omega) ?_ | refine WIx.intsN (by omega) ?_ | refine WIx.rowsN (by omega) ?_) <;> conv => whnf)
        refine WSt.app_one (ds := tDs (a :: s)) (r := [_]) rfl rfl rfl rfl rfl rfl (by simp [tDs]) rfl rfl (by simp at hAl; omega) rfl ?_; conv => whnf
        repeat' first | ((first | (with_reducible first | apply WB.tt | apply WB.ff) | apply Rn.seq | apply Rn.reg | apply Rn.drw | apply Rn.blk | apply Rn.skip | apply Rn.ret | apply Rn.exit | apply Rn.cond rfl | refine i64_ (by omega) (by omega) ?_ | refine ne0_ (by omega) ?_ | refine WIx.intsN (by omega) ?_ | refine WIx.rowsN (by omega) ?_) <;> conv => whnf)
        refine Again.to (j + 1) (by omega) (by omega) ?_ ?_
        · show (nx3 (((allN hs).take j).filter (nearB step))).nat ≤ (nx3 (((allN hs).take (j + 1)).filter (nearB step))).nat
          rw [hA, hnext]; exact hup _
        · show Shr _ (lsS last hs step lv ms (((allN hs).take (j + 1)).filter (nearB step)) (j + 1))
          rw [hnext, List.cons_append]
          refine Shr.of ?_ ?_ rfl rfl
          · show Rel _ _ ((.n (.n (.n .e (some (sl3 (a :: (s ++ [x])))) .e) (some (.pt .h 0 0)) .e) none (.n (.n .e (some (.i .i64 ((j + 1 : Nat) : Int))) .e) none .e)) : T D) _
            rw [sl3_snoc]
            (repeat' first | exact Rel.e | refine Rel.some ?_ ?_ ?_ | refine Rel.none ?_ ?_)
            all_goals show Fz _ _ _ _
            all_goals first | exact .pu trivial | exact .ksl (show _ < 4 by simp [th3, Pos.nat]) | exact .kpt (show _ < 4 by simp [Pos.nat])
          · show Rel _ _ (T.n .e (some (tabC last hs step lv ms)) (.n .e (bl3 (a :: (s ++ [x]))) .e)) _
            rw [bl3_snoc]
            (repeat' first | exact Rel.e | refine Rel.some ?_ ?_ ?_ | refine Rel.none ?_ ?_)
            · exact RO'.of (show _ < 4 by simp [Pos.nat]) (tabC_sh last hs step lv ms)
            · refine RO'.of (show _ < 4 by simp [Pos.nat]) ?_
              exact ShC.grownF (by omega) (pu_tDs _) (.pu (pu_ints _))
    · have hf : nearB step x = false := h
      rw [hf, cond_false, List.append_nil] at hnext
      repeat' first | ((first | (with_reducible first | apply WB.tt | apply WB.ff) | apply Rn.seq | apply Rn.reg | apply Rn.drw | apply Rn.blk | apply Rn.skip | apply Rn.ret | apply Rn.exit | apply Rn.cond rfl | refine i64_ (by omega) (by omega) ?_ | refine ne0_ (by omega) ?_ | refine WIx.intsN (by omega) ?_ | refine WIx.rowsN (by omega) ?_) <;> conv => whnf)
      refine Again.to (j + 1) (by omega) (by omega) ?_ ?_
      · show (nx3 (((allN hs).take j).filter (nearB step))).nat ≤ (nx3 (((allN hs).take (j + 1)).filter (nearB step))).nat
        rw [hA, hnext]; exact Nat.le_refl _
      · show Shr _ (lsS last hs step lv ms (((allN hs).take (j + 1)).filter (nearB step)) (j + 1))
        rw [hnext]
        refine Shr.kp2 ?_ (lsS_kp last hs step lv ms _ _) (T.le_refl _) (lsO_kp last hs step lv ms A (j + 1))
        show T.le ((.n (.n (.n .e (some (sl3 A)) .e) (some (.pt .h 0 0)) .e) none (.n (.n .e (some (.i .i64 ((j + 1 : Nat) : Int))) .e) none .e)) : T D) _
        (repeat' first | exact T.le_e _ | refine T.le_some ?_ rfl ?_ | refine T.le_none ?_ ?_)
  · repeat' first | ((first | (with_reducible first | apply WB.tt | apply WB.ff) | apply Rn.seq | apply Rn.reg | apply Rn.drw | apply Rn.blk | apply Rn.skip | apply Rn.ret | apply Rn.exit | apply Rn.cond rfl | refine i64_ (by omega) (by omega) ?_ | refine ne0_ (by omega) ?_ | refine WIx.intsN (by omega) ?_ | refine WIx.rowsN (by omega) ?_) <;> conv => whnf)
    have he := hend (by omega)
    subst he
    refine Fin.t (.inr rfl) rfl ?_
    cases hT : listsR hs step with
    | nil => exact .ns
    | cons a s =>
      exact Frz.whole (cs := (tDs (a :: s)).map fun d => Cell.o d s.length) (cur := s.length + 1) rfl (by simp [rows]) (tD_one _) (by rw [tD_flat]) (pu_tR _)
end Go.Ev

namespace Go.Ev
open Go.Proofs
set_option maxRecDepth 100000
def topR (l : List Int) (fr to : Int) : Int := ((l.drop fr.toNat).take (to + 1 - fr).toNat).foldl max (l.getD fr.toNat 0)
def rightR (t : List Int) (m : Mk) : Bool := inB (topR t m.fr m.to) m.lo m.hi
def inAt (hs : List Rg) (t : List Int) (i : Nat) : Bool := inB (t.getD i 0) (hs.getD i default).lo (hs.getD i default).hi
def listedR (hs : List Rg) (step : Int) (t : List Int) : Bool := (List.range (min t.length hs.length)).all (inAt hs t) && (decide (t.length = hs.length) && nearB step t)
theorem listed_hts {hs : List Rg} {t : List Int} (hv : Vr hs) (hl : t.length = hs.length) (h : (List.range t.length).all (inAt hs t) = true) : Hts t := fun x hx => by
  obtain ⟨i, hi, rfl⟩ := List.getElem_of_mem hx
  have h1 := List.all_eq_true.1 h i (List.mem_range.2 hi)
  have h2 := inB_spec h1
  have h3 := hv _ (getD_mem (d := default) (show i < hs.length by omega))
  have h4 : t.getD i 0 = t[i] := by simp [List.getD, hi]
  omega
def truthR (hs : List Rg) (step : Int) (ms : List Mk) (t : List Int) : Bool := listedR hs step t && ms.all (rightR t)
end Go.Ev

namespace Go.Ev
open Go.Proofs
set_option maxRecDepth 100000
def truthsR (hs : List Rg) (step : Int) (ms : List Mk) : List (List Int) := (listsR hs step).filter (truthR hs step ms)
section
variable (last : Int) (hs : List Rg) (step : Int) (lv : List Int) (ms : List Mk)
end
end Go.Ev
