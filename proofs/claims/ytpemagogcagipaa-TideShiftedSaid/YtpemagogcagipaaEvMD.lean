import Derived.Test.YtpemagogcagipaaEvMC
set_option linter.all false
namespace Go.Ev
open Go.Proofs
set_option maxRecDepth 100000
def th4 : Pos := .o (.o .h)
def nD (A : List Int) : List D := A.map fun n => D.i .i64 n
def sl4 : List Int → D
  | [] => .ns
  | _ :: s => .sl th4 0 (s.length + 1) s.length 1
def bl4 : List Int → Option C
  | [] => none
  | a :: s => some (.cells false ((nD (a :: s)).map fun d => Cell.o d s.length) (s.length + 1))
def nx4 : List Int → Pos
  | [] => .i .h
  | _ :: _ => .i (.o .h)
theorem sl4_kp (A : List Int) : Kp (nx4 A).nat (sl4 A) := by
  cases A <;> simp [sl4, nx4, Kp, th4, Pos.nat, Pu]
theorem nx4_three (A : List Int) : 3 ≤ (nx4 A).nat := by cases A <;> simp [nx4, Pos.nat]
theorem nx4_up (A A' : List Int) : (nx4 A).nat ≤ (nx4 (A ++ A')).nat := by
  cases A with
  | nil => cases A' <;> simp [nx4, Pos.nat]
  | cons a A => simp [nx4]
theorem nD_kp (n st : Nat) (L : List Int) : ∀ c ∈ (nD L).map (fun d => Cell.o d st), Kp n c.d := fun c hc => by
  obtain ⟨d, hd, rfl⟩ := List.mem_map.1 hc
  obtain ⟨x, _, rfl⟩ := List.mem_map.1 hd
  simp [Kp, Pu, Cell.d]
theorem pu_nD (L : List Int) : PuL (nD L) := puL_map_i L
theorem bl4_snoc (a : Int) (s : List Int) (x : Int) : bl4 (a :: (s ++ [x])) = some (.cells false ((nD (a :: s) ++ [D.i .i64 x]).map fun d => Cell.o d (s.length + 1)) (s.length + 1 + 1)) := by
  simp [bl4, nD]
theorem sl4_snoc (a : Int) (s : List Int) (x : Int) : sl4 (a :: (s ++ [x])) = .sl th4 0 (s.length + 1 + 1) (s.length + 1) 1 := by
  simp [sl4]
def hrs (last : Int) : List Int := (List.range (last + 1).toNat).map fun n : Nat => (n : Int)
theorem hrs_length (last : Int) : (hrs last).length = (last + 1).toNat := by simp [hrs]
theorem hrs_at {last : Int} {j : Nat} (h : j < (last + 1).toNat) : (hrs last).getD j 0 = (j : Int) := by simp [hrs, List.getD, h]
def wetB (lv : List Int) (c : Nat → Int) (row : Nat) (h : Int) : Bool := decide (lv.getD row 0 < c h.toNat)
def wetR (lv : List Int) (c : Nat → Int) (row : Nat) (last : Int) : List Int := (hrs last).filter (wetB lv c row)
section
variable (last : Int) (hs : List Rg) (step : Int) (lv : List Int) (ms : List Mk) (tr : D) (c : Nat → Int) (row : Nat)
def wkC : C := .cells false [.o (.i .i64 last) 0, .o (.lst 2 (rows rgD hs)) 0, .o (.i .i64 step) 0, .o (.lst 1 (ints lv)) 0, .o (.lst 4 (rows mkD ms)) 0, .o tr 0] 1
def seC : C := .cells false [.o (.i .i64 (c 0)) 0, .o (.i .i64 (c 1)) 0, .o (.i .i64 (c 2)) 0, .o (.i .i64 (c 3)) 0, .o (.i .i64 (c 4)) 0, .o (.i .i64 (c 5)) 0, .o (.i .i64 (c 6)) 0, .o (.i .i64 (c 7)) 0, .o (.i .i64 (c 8)) 0, .o (.i .i64 (c 9)) 0] 1
theorem wkC_kp (hk : ∀ n, Kp n tr) (n : Nat) : KpC n (wkC last hs step lv ms tr) := by
  refine KpL.all ?_
  simp [wkC, KpL, Cell.d, hk]
  simp [Kp, Pu, pu_ints, pu_rg, pu_mk]
theorem seC_kp (n : Nat) : KpC n (seC c) := by
  refine KpL.all ?_
  simp [seC, KpL, Kp, Cell.d, Pu]
theorem wkC_sh (htr : Pu tr) {B : Pos → Prop} {ob : T C} : ShC B ob (wkC last hs step lv ms tr) (wkC last hs step lv ms tr) := ShC.same (ShC.cn (.pu trivial) (ShC.cn (.pu (pu_rg _)) (ShC.cn (.pu trivial) (ShC.cn (.pu (pu_ints _)) (ShC.cn (.pu (pu_mk _)) (ShC.cn (.pu htr) ShC.nl))))))
theorem seC_sh {B : Pos → Prop} {ob : T C} : ShC B ob (seC c) (seC c) := ShC.same (ShC.cn (.pu trivial) (ShC.cn (.pu trivial) (ShC.cn (.pu trivial) (ShC.cn (.pu trivial) (ShC.cn (.pu trivial) (ShC.cn (.pu trivial) (ShC.cn (.pu trivial) (ShC.cn (.pu trivial) (ShC.cn (.pu trivial) (ShC.cn (.pu trivial) (ShC.nl)))))))))))
def wtS (A : List Int) (j : Nat) : X := ⟨(.n (.n (.n (.n .e (some (sl4 A)) .e) (some (.pt .h 0 0)) .e) none (.n .e none (.n .e (some (.i .i64 (j : Int))) .e))) none (.n (.n .e (some (.pt (.o .h) 0 0)) (.n .e (some (.i .i64 (last + 1))) .e)) (some (.i .i64 (row : Int))) .e)), .n (.n (.n .e (bl4 A) .e) (some (seC c)) .e) (some (wkC last hs step lv ms tr)) .e, nx4 A, none⟩
theorem wtS_kp (A : List Int) (j : Nat) : ∀ s d, (wtS last hs step lv ms tr c row A j).sl.get s = some d → Kp (nx4 A).nat d := by
  have h2 := nx4_three A
  show TAll (fun _ d => Kp (nx4 A).nat d) _
  unfold wtS
  repeat' first | exact TAll.e | refine TAll.some ?_ ?_ ?_ | refine TAll.none ?_ ?_
  all_goals first | exact sl4_kp A | (simp [Kp, Pu, Pos.nat]; done) | (simp [Kp, Pos.nat]; omega)
theorem wtO_kp (hk : ∀ n, Kp n tr) (A : List Int) (j : Nat) : KpO (nx4 A).nat (wtS last hs step lv ms tr c row A j).ob := by
  cases A with
  | nil =>
    show TAll (fun id c => id.nat < 3 ∧ KpC 3 c) _
    unfold wtS bl4
    refine TAll.some (TAll.some (TAll.none TAll.e TAll.e) ⟨by simp [Pos.nat], seC_kp c _⟩ TAll.e) ⟨by simp [Pos.nat], wkC_kp last hs step lv ms tr hk _⟩ TAll.e
  | cons a s =>
    show TAll (fun id c => id.nat < 5 ∧ KpC 5 c) _
    unfold wtS bl4
    refine TAll.some (TAll.some (TAll.some TAll.e ⟨by simp [Pos.nat], nD_kp _ _ _⟩ TAll.e) ⟨by simp [Pos.nat], seC_kp c _⟩ TAll.e) ⟨by simp [Pos.nat], wkC_kp last hs step lv ms tr hk _⟩ TAll.e
end
theorem ten {j : Nat} (h : j < 10) : j = 0 ∨ j = 1 ∨ j = 2 ∨ j = 3 ∨ j = 4 ∨ j = 5 ∨ j = 6 ∨ j = 7 ∨ j = 8 ∨ j = 9 := by omega
set_option maxHeartbeats 4000000 in
theorem c_wetHours (last : Int) (hs : List Rg) (step : Int) (lv : List Int) (ms : List Mk) (tr : D) (htr : Pu tr) (hk : ∀ n, Kp n tr) (c : Nat → Int) (row : Nat) (hr : row < lv.length) (hl : lv.length ≤ 1000) (h0 : 0 ≤ last) (h9 : last ≤ 9) : PureF Try.prog p66.ix [.ag [.i .i64 last, .lst 2 (rows rgD hs), .i .i64 step, .lst 1 (ints lv), .lst 4 (rows mkD ms), tr], .ag (seaD c), .i .i64 (row : Int)] (.lst 1 (ints (wetR lv c row last))) := by
  have hal := hrs_length last
  refine PureF.run fn65 (by simp) (by simp [PuL, PuE, Pu, pu_ints, pu_rg, pu_mk, htr, seaD]) ?_; conv => whnf
  repeat' first | ((first | (with_reducible first | apply WB.tt | apply WB.ff) | apply Rn.seq | apply Rn.reg | apply Rn.drw | apply Rn.blk | apply Rn.skip | apply Rn.ret | apply Rn.exit | apply Rn.cond rfl | refine i64_ (by omega) (by omega) ?_ | refine ne0_ (by omega) ?_ | refine WIx.intsN (by omega) ?_ | refine WIx.rowsN (by omega) ?_) <;> conv => whnf)
  refine Rn.loop (fun j : Nat => wtS last hs step lv ms tr c row (((hrs last).take j).filter (wetB lv c row)) j) (fun j => j ≤ (last + 1).toNat) (fun j => (last + 1).toNat - j) 0 ?_ ?_ ?_
  · refine X.le.mk ?_ (T.le_some (T.le_some (T.le_ee (T.le_e _) (T.le_e _)) rfl (T.le_e _)) rfl (T.le_e _)) (Nat.le_refl _) rfl rfl
    show T.le ((.n (.n (.n (.n .e (some (.ns)) .e) (some (.pt .h 0 0)) .e) none (.n .e none (.n .e (some (.i .i64 (0 : Int))) .e))) none (.n (.n .e (some (.pt (.o .h) 0 0)) (.n .e (some (.i .i64 (last + 1))) .e)) (some (.i .i64 (row : Int))) .e)) : T D) _
    (repeat' first | exact T.le_e _ | refine T.le_some ?_ rfl ?_ | refine T.le_none ?_ ?_)
  · exact Nat.zero_le _
  intro j hj
  have hj : j ≤ (last + 1).toNat := hj
  have hAl : (((hrs last).take j).filter (wetB lv c row)).length ≤ 10 := by
    have h1 := List.length_filter_le (wetB lv c row) ((hrs last).take j)
    rw [List.length_take] at h1
    omega
  have hend : j = (last + 1).toNat → ((hrs last).take j).filter (wetB lv c row) = wetR lv c row last := fun e => by rw [e, ← hal, List.take_length]; rfl
  have hnext := fun h => filter_take_succ (p := wetB lv c row) (l := hrs last) (j := j) (d := 0) h
  generalize hA : ((hrs last).take j).filter (wetB lv c row) = A at *
  conv => whnf
  repeat' first | ((first | (with_reducible first | apply WB.tt | apply WB.ff) | apply Rn.seq | apply Rn.reg | apply Rn.drw | apply Rn.blk | apply Rn.skip | apply Rn.ret | apply Rn.exit | apply Rn.cond rfl | refine i64_ (by omega) (by omega) ?_ | refine ne0_ (by omega) ?_ | refine WIx.intsN (by omega) ?_ | refine WIx.rowsN (by omega) ?_) <;> conv => whnf)
  refine WB.dec (fun h => ?_) (fun h => ?_) <;> conv => whnf
  · have hlt : j < (last + 1).toNat := by omega
    have hnext := hnext (by omega)
    rw [hrs_at hlt] at hnext
    have hup := nx4_up A
    have cW := c_isWet last hs step lv ms tr htr hl row hr (c j)
    have wA : ∀ B : List Int, ((hrs last).take (j + 1)).filter (wetB lv c row) = B → (nx4 A).nat ≤ (nx4 B).nat → ∀ z, Shr z (wtS last hs step lv ms tr c row B (j + 1)) → Again (fun j : Nat => wtS last hs step lv ms tr c row (((hrs last).take j).filter (wetB lv c row)) j) (fun j => j ≤ (last + 1).toNat) (fun j => (last + 1).toNat - j) j z := fun B hB hn z hS => by
      refine Again.to (j + 1) (by omega) (by omega) ?_ ?_
      · show (nx4 (((hrs last).take j).filter (wetB lv c row))).nat ≤ (nx4 (((hrs last).take (j + 1)).filter (wetB lv c row))).nat
        rw [hA, hB]; exact hn
      · show Shr _ (wtS last hs step lv ms tr c row (((hrs last).take (j + 1)).filter (wetB lv c row)) (j + 1))
        rw [hB]; exact hS
    cases hw : decide (lv.getD row 0 < c j) with
    | true =>
      have hf : wetB lv c row ((j : Nat) : Int) = true := hw
      rw [hf, cond_true] at hnext
      rw [hw] at cW
      have wB := wA _ hnext (hup _)
      cases A with
      | nil =>
        have wC := wtO_kp last hs step lv ms tr c row hk [((j : Nat) : Int)] (j + 1)
        rcases ten (show j < 10 by omega) with rfl | rfl | rfl | rfl | rfl | rfl | rfl | rfl | rfl | rfl
        all_goals
          repeat' first | ((first | (with_reducible first | apply WB.tt | apply WB.ff) | apply Rn.seq | apply Rn.reg | apply Rn.drw | apply Rn.blk | apply Rn.skip | apply Rn.ret | apply Rn.exit | apply Rn.cond rfl | refine i64_ (by omega) (by omega) ?_ | refine ne0_ (by omega) ?_ | refine WIx.intsN (by omega) ?_ | refine WIx.rowsN (by omega) ?_) <;> conv => whnf)
          refine WSt.ixaN rfl rfl rfl (by omega) ?_; conv => whnf
          repeat' first | ((first | (with_reducible first | apply WB.tt | apply WB.ff) | apply Rn.seq | apply Rn.reg | apply Rn.drw | apply Rn.blk | apply Rn.skip | apply Rn.ret | apply Rn.exit | apply Rn.cond rfl | refine i64_ (by omega) (by omega) ?_ | refine ne0_ (by omega) ?_ | refine WIx.intsN (by omega) ?_ | refine WIx.rowsN (by omega) ?_ | refine WCall.pure (cW) ?_) <;> conv => whnf)
          refine WSt.app_first (r := [_]) rfl (.inl rfl) rfl rfl rfl rfl ?_; conv => whnf
          repeat' first | ((first | (with_reducible first | apply WB.tt | apply WB.ff) | apply Rn.seq | apply Rn.reg | apply Rn.drw | apply Rn.blk | apply Rn.skip | apply Rn.ret | apply Rn.exit | apply Rn.cond rfl | refine i64_ (by omega) (by omega) ?_ | refine ne0_ (by omega) ?_ | refine WIx.intsN (by omega) ?_ | refine WIx.rowsN (by omega) ?_) <;> conv => whnf)
          refine wB _ (Shr.kp2 ?_ (wtS_kp last hs step lv ms tr c row _ _) ?_ wC)
          · show T.le (T.n _ _ _) _
            (repeat' first | exact T.le_e _ | refine T.le_some ?_ rfl ?_ | refine T.le_none ?_ ?_)
          · show T.le (T.n _ _ _) _
            (repeat' first | exact T.le_e _ | refine T.le_some ?_ rfl ?_ | refine T.le_none ?_ ?_)
      | cons a s =>
        rw [List.cons_append] at wB
        have wC : ∀ z, Shr z ⟨(.n (.n (.n (.n .e (some (.sl th4 0 (s.length + 1 + 1) (s.length + 1) 1)) .e) (some (.pt .h 0 0)) .e) none (.n .e none (.n .e (some (.i .i64 ((j + 1 : Nat) : Int))) .e))) none (.n (.n .e (some (.pt (.o .h) 0 0)) (.n .e (some (.i .i64 (last + 1))) .e)) (some (.i .i64 (row : Int))) .e)), .n (.n (.n .e (some (.cells false ((nD (a :: s) ++ [D.i .i64 ((j : Nat) : Int)]).map fun d => Cell.o d (s.length + 1)) (s.length + 1 + 1))) .e) (some (seC c)) .e) (some (wkC last hs step lv ms tr)) .e, .i (.o .h), none⟩ → Again (fun j : Nat => wtS last hs step lv ms tr c row (((hrs last).take j).filter (wetB lv c row)) j) (fun j => j ≤ (last + 1).toNat) (fun j => (last + 1).toNat - j) j z := fun z hz => wB z (by
          unfold wtS
          rw [sl4_snoc, bl4_snoc]
          exact hz)
        rcases ten (show j < 10 by omega) with rfl | rfl | rfl | rfl | rfl | rfl | rfl | rfl | rfl | rfl
        all_goals
          repeat' first | ((first | (with_reducible first | apply WB.tt | apply WB.ff) | apply Rn.seq | apply Rn.reg | apply Rn.drw | apply Rn.blk | apply Rn.skip | apply Rn.ret | apply Rn.exit | apply Rn.cond rfl | refine i64_ (by omega) (by omega) ?_ | refine ne0_ (by omega) ?_ | refine WIx.intsN (by omega) ?_ | refine WIx.rowsN (by omega) ?_) <;> conv => whnf)
          refine WSt.ixaN rfl rfl rfl (by omega) ?_; conv => whnf
          repeat' first | ((first | (with_reducible first | apply WB.tt | apply WB.ff) | apply Rn.seq | apply Rn.reg | apply Rn.drw | apply Rn.blk | apply Rn.skip | apply Rn.ret | apply Rn.exit | apply Rn.cond rfl | refine i64_ (by omega) (by omega) ?_ | refine ne0_ (by omega) ?_ | refine WIx.intsN (by omega) ?_ | refine WIx.rowsN (by omega) ?_ | refine WCall.pure (cW) ?_) <;> conv => whnf)
          refine WSt.app_one (ds := nD (a :: s)) (r := [_]) rfl rfl rfl rfl rfl rfl (by simp [nD]) rfl rfl (by simp at hAl; omega) rfl ?_; conv => whnf
          repeat' first | ((first | (with_reducible first | apply WB.tt | apply WB.ff) | apply Rn.seq | apply Rn.reg | apply Rn.drw | apply Rn.blk | apply Rn.skip | apply Rn.ret | apply Rn.exit | apply Rn.cond rfl | refine i64_ (by omega) (by omega) ?_ | refine ne0_ (by omega) ?_ | refine WIx.intsN (by omega) ?_ | refine WIx.rowsN (by omega) ?_) <;> conv => whnf)
          refine wC _ (Shr.of ?_ ?_ rfl rfl)
          · (repeat' first | exact Rel.e | refine Rel.some ?_ ?_ ?_ | refine Rel.none ?_ ?_)
            all_goals show Fz _ _ _ _
            all_goals first | exact .pu trivial | exact .ksl (show _ < 5 by simp [th4, Pos.nat]) | exact .kpt (show _ < 5 by simp [Pos.nat])
          · (repeat' first | exact Rel.e | refine Rel.some ?_ ?_ ?_ | refine Rel.none ?_ ?_)
            · refine RO'.of (show _ < 5 by simp [Pos.nat]) ?_
              exact ShC.grownF (by omega) (pu_nD _) (.pu trivial)
            · exact RO'.of (show _ < 5 by simp [Pos.nat]) (seC_sh c)
            · exact RO'.of (show _ < 5 by simp [Pos.nat]) (wkC_sh last hs step lv ms tr htr)
    | false =>
      have hf : wetB lv c row ((j : Nat) : Int) = false := hw
      rw [hf, cond_false, List.append_nil] at hnext
      rw [hw] at cW
      have wB := wA _ hnext (Nat.le_refl _)
      have wC := wtO_kp last hs step lv ms tr c row hk A (j + 1)
      rcases ten (show j < 10 by omega) with rfl | rfl | rfl | rfl | rfl | rfl | rfl | rfl | rfl | rfl
      all_goals
        repeat' first | ((first | (with_reducible first | apply WB.tt | apply WB.ff) | apply Rn.seq | apply Rn.reg | apply Rn.drw | apply Rn.blk | apply Rn.skip | apply Rn.ret | apply Rn.exit | apply Rn.cond rfl | refine i64_ (by omega) (by omega) ?_ | refine ne0_ (by omega) ?_ | refine WIx.intsN (by omega) ?_ | refine WIx.rowsN (by omega) ?_) <;> conv => whnf)
        refine WSt.ixaN rfl rfl rfl (by omega) ?_; conv => whnf
        repeat' first | ((first | (with_reducible first | apply WB.tt | apply WB.ff) | apply Rn.seq | apply Rn.reg | apply Rn.drw | apply Rn.blk | apply Rn.skip | apply Rn.ret | apply Rn.exit | apply Rn.cond rfl | refine i64_ (by omega) (by omega) ?_ | refine ne0_ (by omega) ?_ | refine WIx.intsN (by omega) ?_ | refine WIx.rowsN (by omega) ?_ | refine WCall.pure (cW) ?_) <;> conv => whnf)
        refine wB _ (Shr.kp2 ?_ (wtS_kp last hs step lv ms tr c row _ _) (T.le_refl _) wC)
        show T.le (T.n _ _ _) _
        (repeat' first | exact T.le_e _ | refine T.le_some ?_ rfl ?_ | refine T.le_none ?_ ?_)
  · repeat' first | ((first | (with_reducible first | apply WB.tt | apply WB.ff) | apply Rn.seq | apply Rn.reg | apply Rn.drw | apply Rn.blk | apply Rn.skip | apply Rn.ret | apply Rn.exit | apply Rn.cond rfl | refine i64_ (by omega) (by omega) ?_ | refine ne0_ (by omega) ?_ | refine WIx.intsN (by omega) ?_ | refine WIx.rowsN (by omega) ?_) <;> conv => whnf)
    have he := hend (by omega)
    subst he
    refine Fin.t (.inr rfl) rfl ?_
    cases hT : wetR lv c row last with
    | nil => exact .ns
    | cons a s =>
      exact Frz.whole (cs := (nD (a :: s)).map fun d => Cell.o d s.length) (cur := s.length + 1) rfl (by simp [ints]) (ints_one _) (by rw [ints_flatten]; rfl) (pu_ints _)
end Go.Ev

namespace Go.Ev
open Go.Proofs
set_option maxRecDepth 100000
def agreesM (c : Nat → Int) (m : Mk) : Bool := agreesR c m.fr.toNat m.to.toNat m.lo m.hi
theorem c_agreesM (c : Nat → Int) (m : Mk) (h0 : 0 ≤ m.fr) (h1 : m.fr ≤ m.to) (h2 : m.to ≤ 9) : PureF Try.prog p68.ix [.ag (seaD c), .ag (mkD m)] (.b (agreesM c m)) := by
  obtain ⟨fr, to, lo, hi⟩ := m
  obtain ⟨f, rfl⟩ := Int.eq_ofNat_of_zero_le h0
  obtain ⟨t, rfl⟩ := Int.eq_ofNat_of_zero_le (Int.le_trans h0 h1)
  have h1 : (f : Int) ≤ t := h1
  have h2 : (t : Int) ≤ 9 := h2
  exact c_agrees c f t lo hi (by omega) (by omega)
def fitsR (c : Nat → Int) (ms : List Mk) : Bool := ms.all (agreesM c)
def Vt (ms : List Mk) : Prop := ∀ m ∈ ms, 0 ≤ m.fr ∧ m.fr ≤ m.to ∧ m.to ≤ 9
theorem c_fits1 (c : Nat → Int) (ms : List Mk) (hm : Vt ms) (hl : ms.length ≤ 1000) : PureF Try.prog p101.ix [.ag (seaD c), .pl [.lst 4 (rows mkD ms)] 0] (.b (fitsR c ms)) := by
  have hA := c_allMk ms p68 [.ag (seaD c)] [] (agreesM c) (by simp [PuL, Pu, seaD]) trivial hl (fun m hmm => c_agreesM c m (hm m hmm).1 (hm m hmm).2.1 (hm m hmm).2.2)
  refine PureF.run fn100 (by simp) (by simp [PuL, PuE, Pu, pu_ints, pu_rg, pu_mk, seaD]) ?_; conv => whnf
  repeat' first | ((first | (with_reducible first | apply WB.tt | apply WB.ff) | apply Rn.seq | apply Rn.reg | apply Rn.drw | apply Rn.blk | apply Rn.skip | apply Rn.ret | apply Rn.exit | apply Rn.cond rfl | refine i64_ (by omega) (by omega) ?_ | refine ne0_ (by omega) ?_ | refine WIx.intsN (by omega) ?_ | refine WIx.rowsN (by omega) ?_ | refine WCall.pure (hA) ?_) <;> conv => whnf)
  exact Fin.b rfl rfl
def eqAt (a b : List Int) (i : Nat) : Bool := decide (a.getD i 0 = b.getD i 0)
theorem eq_of_at : ∀ {a b : List Int}, a.length = b.length → (List.range a.length).all (eqAt a b) = true → a = b := fun {a b} hl h => by
  apply List.ext_getElem hl
  intro i h1 h2
  have h3 := of_decide_eq_true (List.all_eq_true.1 h i (List.mem_range.2 h1))
  simpa [List.getD, h1, h2] using h3
theorem c_same (a b : List Int) (hl : a.length ≤ 1000) : PureF Try.prog p30.ix [.lst 1 (ints a), .lst 1 (ints b)] (.b (decide (a = b))) := by
  have e1 := ints_length a
  have e2 := ints_length b
  refine PureF.run fn29 (by simp) (by simp [PuL, PuE, Pu, pu_ints]) ?_; conv => whnf
  repeat' first | ((first | (with_reducible first | apply WB.tt | apply WB.ff) | apply Rn.seq | apply Rn.reg | apply Rn.drw | apply Rn.blk | apply Rn.skip | apply Rn.ret | apply Rn.exit | apply Rn.cond rfl | refine i64_ (by omega) (by omega) ?_ | refine ne0_ (by omega) ?_ | refine WIx.intsN (by omega) ?_ | refine WIx.rowsN (by omega) ?_) <;> conv => whnf)
  refine WB.mk (fun h => ?_) (fun h => ?_) <;> conv => whnf
  · have hq : ¬ (((ints a).length : Nat) : Int) = ((ints b).length : Nat) := by simpa using h
    repeat' first | ((first | (with_reducible first | apply WB.tt | apply WB.ff) | apply Rn.seq | apply Rn.reg | apply Rn.drw | apply Rn.blk | apply Rn.skip | apply Rn.ret | apply Rn.exit | apply Rn.cond rfl | refine i64_ (by omega) (by omega) ?_ | refine ne0_ (by omega) ?_ | refine WIx.intsN (by omega) ?_ | refine WIx.rowsN (by omega) ?_) <;> conv => whnf)
    exact Fin.b rfl (decide_eq_false (fun he => hq (by rw [he]))).symm
  have hq : (((ints a).length : Nat) : Int) = ((ints b).length : Nat) := by simpa using h
  have hlen : a.length = b.length := by omega
  repeat' first | ((first | (with_reducible first | apply WB.tt | apply WB.ff) | apply Rn.seq | apply Rn.reg | apply Rn.drw | apply Rn.blk | apply Rn.skip | apply Rn.ret | apply Rn.exit | apply Rn.cond rfl | refine i64_ (by omega) (by omega) ?_ | refine ne0_ (by omega) ?_ | refine WIx.intsN (by omega) ?_ | refine WIx.rowsN (by omega) ?_) <;> conv => whnf)
  refine Rn.loop (fun j : Nat => ⟨(.n (.n .e (some (.lst 1 (ints b))) (.n .e (some (.i .i64 (j : Int))) .e)) (some (.lst 1 (ints a))) .e), .e, .h, none⟩) (fun j => j ≤ a.length ∧ (List.range j).all (eqAt a b) = true) (fun j => a.length - j) 0 ?_ ?_ ?_
  · (first | (refine X.le.mk ?_ ?_ (Nat.le_refl _) rfl rfl) | skip) <;> (repeat' first | exact T.le_e _ | refine T.le_some ?_ ?_ ?_ | refine T.le_none ?_ ?_ | rfl)
  · exact ⟨by omega, by simp⟩
  rintro j ⟨hj, ha⟩
  conv => whnf
  repeat' first | ((first | (with_reducible first | apply WB.tt | apply WB.ff) | apply Rn.seq | apply Rn.reg | apply Rn.drw | apply Rn.blk | apply Rn.skip | apply Rn.ret | apply Rn.exit | apply Rn.cond rfl | refine i64_ (by omega) (by omega) ?_ | refine ne0_ (by omega) ?_ | refine WIx.intsN (by omega) ?_ | refine WIx.rowsN (by omega) ?_) <;> conv => whnf)
  refine WB.dec (fun h => ?_) (fun h => ?_) <;> conv => whnf
  · have hlt : j < a.length := by omega
    have hltb : j < b.length := by omega
    repeat' first | ((first | (with_reducible first | apply WB.tt | apply WB.ff) | apply Rn.seq | apply Rn.reg | apply Rn.drw | apply Rn.blk | apply Rn.skip | apply Rn.ret | apply Rn.exit | apply Rn.cond rfl | refine i64_ (by omega) (by omega) ?_ | refine ne0_ (by omega) ?_ | refine WIx.intsN (by omega) ?_ | refine WIx.rowsN (by omega) ?_) <;> conv => whnf)
    refine WB.mk (fun h => ?_) (fun h => ?_) <;> conv => whnf
    · have hn : ¬ a.getD j 0 = b.getD j 0 := by simpa using h
      repeat' first | ((first | (with_reducible first | apply WB.tt | apply WB.ff) | apply Rn.seq | apply Rn.reg | apply Rn.drw | apply Rn.blk | apply Rn.skip | apply Rn.ret | apply Rn.exit | apply Rn.cond rfl | refine i64_ (by omega) (by omega) ?_ | refine ne0_ (by omega) ?_ | refine WIx.intsN (by omega) ?_ | refine WIx.rowsN (by omega) ?_) <;> conv => whnf)
      exact Fin.b rfl (decide_eq_false (fun he => hn (by rw [he]))).symm
    · have hn : a.getD j 0 = b.getD j 0 := by simpa using h
      repeat' first | ((first | (with_reducible first | apply WB.tt | apply WB.ff) | apply Rn.seq | apply Rn.reg | apply Rn.drw | apply Rn.blk | apply Rn.skip | apply Rn.ret | apply Rn.exit | apply Rn.cond rfl | refine i64_ (by omega) (by omega) ?_ | refine ne0_ (by omega) ?_ | refine WIx.intsN (by omega) ?_ | refine WIx.rowsN (by omega) ?_) <;> conv => whnf)
      refine Again.to (j + 1) (by omega) ⟨by omega, range_succ_all ha (decide_eq_true hn)⟩ (Nat.le_refl _) ?_
      (refine Shr.of ?_ ?_ rfl rfl) <;> (repeat' first | exact Rel.e | refine Rel.some ?_ ?_ ?_ | refine Rel.none ?_ ?_) <;> (try first | (show Fz _ _ _ _; first | exact Fz.pu trivial | (refine Fz.i ?_; first | rfl | omega) | (refine Fz.kpt ?_; (focus (show Pos.nat _ < Pos.nat _; simp [Pos.nat]; done))) | (refine Fz.ksl ?_; (focus (show Pos.nat _ < Pos.nat _; simp [Pos.nat]; done))) | (refine Fz.kmp ?_; (focus (show Pos.nat _ < Pos.nat _; simp [Pos.nat]; done))) | (refine Fz.pu ?_; simp [Cell.d, Pu, PuL, PuE, pu_ints, pu_rg, pu_mk]; done) | (refine Fz.pu ?_; simp only [Cell.d]; assumption)) | (refine RO'.of ?_ (ShC.same ?_); (focus (show Pos.nat _ < Pos.nat _; simp [Pos.nat]; done)); (repeat' first | exact ShC.nl | refine ShC.cn ?_ ?_) <;> first | exact Fz.pu trivial | (refine Fz.i ?_; first | rfl | omega) | (refine Fz.kpt ?_; (focus (show Pos.nat _ < Pos.nat _; simp [Pos.nat]; done))) | (refine Fz.ksl ?_; (focus (show Pos.nat _ < Pos.nat _; simp [Pos.nat]; done))) | (refine Fz.kmp ?_; (focus (show Pos.nat _ < Pos.nat _; simp [Pos.nat]; done))) | (refine Fz.pu ?_; simp [Cell.d, Pu, PuL, PuE, pu_ints, pu_rg, pu_mk]; done) | (refine Fz.pu ?_; simp only [Cell.d]; assumption)))
      all_goals first | (refine Fz.i ?_; omega) | (refine Fz.pu ?_; simp [Pu, pu_ints])
  · repeat' first | ((first | (with_reducible first | apply WB.tt | apply WB.ff) | apply Rn.seq | apply Rn.reg | apply Rn.drw | apply Rn.blk | apply Rn.skip | apply Rn.ret | apply Rn.exit | apply Rn.cond rfl | refine i64_ (by omega) (by omega) ?_ | refine ne0_ (by omega) ?_ | refine WIx.intsN (by omega) ?_ | refine WIx.rowsN (by omega) ?_) <;> conv => whnf)
    exact Fin.b rfl (decide_eq_true (eq_of_at hlen (by rw [show a.length = j by omega]; exact ha))).symm
end Go.Ev

namespace Go.Ev
open Go.Proofs
set_option maxRecDepth 100000
theorem c_list (l : List Int) (hl : l.length ≤ 65536) : PureF Try.prog p24.ix [.lst 1 (ints l)] (.lst 1 (ints l)) := by
  have e1 := ints_length l
  refine PureF.run fn23 (by simp) (by simp [PuL, PuE, Pu, pu_ints]) ?_; conv => whnf
  repeat' first | ((first | (with_reducible first | apply WB.tt | apply WB.ff) | apply Rn.seq | apply Rn.reg | apply Rn.drw | apply Rn.blk | apply Rn.skip | apply Rn.ret | apply Rn.exit | apply Rn.cond rfl | refine i64_ (by omega) (by omega) ?_ | refine ne0_ (by omega) ?_ | refine WIx.intsN (by omega) ?_ | refine WIx.rowsN (by omega) ?_) <;> conv => whnf)
  refine WSt.app_emp rfl rfl rfl (ints_one l) (by omega) (fun st => ?_); conv => whnf
  repeat' first | ((first | (with_reducible first | apply WB.tt | apply WB.ff) | apply Rn.seq | apply Rn.reg | apply Rn.drw | apply Rn.blk | apply Rn.skip | apply Rn.ret | apply Rn.exit | apply Rn.cond rfl | refine i64_ (by omega) (by omega) ?_ | refine ne0_ (by omega) ?_ | refine WIx.intsN (by omega) ?_ | refine WIx.rowsN (by omega) ?_) <;> conv => whnf)
  exact Fin.t (.inr rfl) rfl (Frz.whole (cur := st + 1) rfl rfl (ints_one l) rfl (pu_ints l))
theorem c_height (last : Int) (hs : List Rg) (step : Int) (lv : List Int) (ms : List Mk) (tr : D) (htr : Pu tr) (c : Nat → Int) (h : Nat) (hh : h < 10) : PureF Try.prog p76.ix [.ag [.i .i64 last, .lst 2 (rows rgD hs), .i .i64 step, .lst 1 (ints lv), .lst 4 (rows mkD ms), tr], .ag (seaD c), .i .i64 (h : Int)] (.i .i64 (c h)) := by
  refine PureF.run fn75 (by simp) (by simp [PuL, PuE, Pu, pu_ints, pu_rg, pu_mk, htr, seaD]) ?_; conv => whnf
  rcases ten hh with rfl | rfl | rfl | rfl | rfl | rfl | rfl | rfl | rfl | rfl
  all_goals
    repeat' first | ((first | (with_reducible first | apply WB.tt | apply WB.ff) | apply Rn.seq | apply Rn.reg | apply Rn.drw | apply Rn.blk | apply Rn.skip | apply Rn.ret | apply Rn.exit | apply Rn.cond rfl | refine i64_ (by omega) (by omega) ?_ | refine ne0_ (by omega) ?_ | refine WIx.intsN (by omega) ?_ | refine WIx.rowsN (by omega) ?_) <;> conv => whnf)
    refine WSt.ixaN rfl rfl rfl (by omega) ?_; conv => whnf
    repeat' first | ((first | (with_reducible first | apply WB.tt | apply WB.ff) | apply Rn.seq | apply Rn.reg | apply Rn.drw | apply Rn.blk | apply Rn.skip | apply Rn.ret | apply Rn.exit | apply Rn.cond rfl | refine i64_ (by omega) (by omega) ?_ | refine ne0_ (by omega) ?_ | refine WIx.intsN (by omega) ?_ | refine WIx.rowsN (by omega) ?_) <;> conv => whnf)
    exact Fin.i rfl rfl
end Go.Ev
