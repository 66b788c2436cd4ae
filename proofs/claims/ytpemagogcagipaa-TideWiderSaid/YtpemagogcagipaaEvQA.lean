import Derived.Test.YtpemagogcagipaaEvMN
set_option linter.all false
namespace Go.Ev
open Go.Proofs
set_option maxRecDepth 100000
def bitsN (p : Nat → Bool) (n : Nat) : Nat := (List.range n).foldl (fun b k => if p k = true then b ||| 1 * 2 ^ k else b) 0
theorem bitsN_succ (p : Nat → Bool) (n : Nat) : bitsN p (n + 1) = if p n = true then bitsN p n ||| 1 * 2 ^ n else bitsN p n := by
  unfold bitsN
  rw [List.range_succ, List.foldl_append]
  rfl
theorem bitsN_test (p : Nat → Bool) : ∀ n q, (bitsN p n).testBit q = (decide (q < n) && p q)
  | 0, q => by
    rw [decide_eq_false (Nat.not_lt_zero q), Bool.false_and]
    exact Nat.zero_testBit q
  | n + 1, q => by
    rw [bitsN_succ]
    have ih := bitsN_test p n q
    by_cases hp : p n = true
    · rw [if_pos hp, bits_or, ih]
      by_cases e : n = q
      · subst e
        rw [hp, decide_eq_true (show n < n + 1 by omega)]
        simp
      · rw [decide_eq_false e, Bool.or_false]
        by_cases e2 : q < n
        · rw [decide_eq_true e2, decide_eq_true (show q < n + 1 by omega)]
        · rw [decide_eq_false e2, decide_eq_false (show ¬ q < n + 1 by omega)]
    · rw [if_neg hp, ih]
      have hp : p n = false := by simpa using hp
      by_cases e : n = q
      · subst e
        rw [hp]
        simp
      · by_cases e2 : q < n
        · rw [decide_eq_true e2, decide_eq_true (show q < n + 1 by omega)]
        · rw [decide_eq_false e2, decide_eq_false (show ¬ q < n + 1 by omega)]
def canB (A : List Nat) (m : Nat) : Bool := (List.range A.length).any fun i => decide (A.getD i 0 &&& m = m)
end Go.Ev

namespace Go.Ev
open Go.Proofs
set_option maxRecDepth 100000
def markN (ms : List Mk) (t : List Int) (n : Nat) : Nat := bitsN (fun k => rightR t (ms.getD k default)) n
def allR (hs : List Rg) (step : Int) (ms : List Mk) : List Nat := (listsR hs step).map fun t => markN ms t ms.length
end Go.Ev

namespace Go.Ev
open Go.Proofs
set_option maxRecDepth 100000
def idxR (A : List Int) (x : Int) : Int :=
  match (List.range A.length).find? fun i : Nat => decide (x = A.getD i 0) with
  | some n => (n : Int)
  | none => -1
theorem c_Index (A : List Int) (x : Int) (hl : A.length ≤ 1000) : PureF Try.prog p112.ix [.lst 1 (ints A), .i .i64 x] (.i .i64 (idxR A x)) := by
  have e1 := ints_length A
  refine PureF.run fn111 (by simp) (by simp [PuL, PuE, Pu, pu_ints]) ?_; conv => whnf
  repeat' first | ((first | (with_reducible first | apply WB.tt | apply WB.ff) | apply Rn.seq | apply Rn.reg | apply Rn.drw | apply Rn.blk | apply Rn.skip | apply Rn.ret | apply Rn.exit | apply Rn.cond rfl | refine i64_ (by omega) (by omega) ?_ | refine ne0_ (by omega) ?_ | refine WIx.intsN (by omega) ?_ | refine WIx.rowsN (by omega) ?_) <;> conv => whnf)
  refine Rn.loop (fun j : Nat => ⟨(.n (.n (.n (.n .e (some (.i .i64 (A.length : Int))) .e) none .e) (some (.i .i64 x)) .e) (some (.lst 1 (ints A))) (.n (.n (.n .e (some (.i .i64 (j : Int))) .e) none .e) none .e)), .e, .h, none⟩) (fun j => j ≤ A.length ∧ ∀ i, i < j → decide (x = A.getD i 0) = false) (fun j => A.length - j) 0 ?_ ?_ ?_
  · refine X.le.mk ?_ (T.le_e _) (Nat.le_refl _) rfl rfl
    show T.le ((.n (.n (.n (.n .e (some (.i .i64 (A.length : Int))) .e) none .e) (some (.i .i64 x)) .e) (some (.lst 1 (ints A))) (.n (.n (.n .e (some (.i .i64 0)) .e) none .e) none .e)) : T D) _
    rw [← e1]
    (repeat' first | exact T.le_e _ | refine T.le_some ?_ rfl ?_ | refine T.le_none ?_ ?_)
  · exact ⟨Nat.zero_le _, fun i h => by omega⟩
  rintro j ⟨hj, ha⟩
  conv => whnf
  repeat' first | ((first | (with_reducible first | apply WB.tt | apply WB.ff) | apply Rn.seq | apply Rn.reg | apply Rn.drw | apply Rn.blk | apply Rn.skip | apply Rn.ret | apply Rn.exit | apply Rn.cond rfl | refine i64_ (by omega) (by omega) ?_ | refine ne0_ (by omega) ?_ | refine WIx.intsN (by omega) ?_ | refine WIx.rowsN (by omega) ?_) <;> conv => whnf)
  refine WB.dec (fun h => ?_) (fun h => ?_) <;> conv => whnf
  · have hlt : j < A.length := by omega
    repeat' first | ((first | (with_reducible first | apply WB.tt | apply WB.ff) | apply Rn.seq | apply Rn.reg | apply Rn.drw | apply Rn.blk | apply Rn.skip | apply Rn.ret | apply Rn.exit | apply Rn.cond rfl | refine i64_ (by omega) (by omega) ?_ | refine ne0_ (by omega) ?_ | refine WIx.intsN (by omega) ?_ | refine WIx.rowsN (by omega) ?_) <;> conv => whnf)
    refine WB.dec (fun h => ?_) (fun h => ?_) <;> conv => whnf
    · have hx : x = A.getD j 0 := h
      repeat' first | ((first | (with_reducible first | apply WB.tt | apply WB.ff) | apply Rn.seq | apply Rn.reg | apply Rn.drw | apply Rn.blk | apply Rn.skip | apply Rn.ret | apply Rn.exit | apply Rn.cond rfl | refine i64_ (by omega) (by omega) ?_ | refine ne0_ (by omega) ?_ | refine WIx.intsN (by omega) ?_ | refine WIx.rowsN (by omega) ?_) <;> conv => whnf)
      refine Fin.i rfl ?_
      unfold idxR
      rw [List.find?_range_eq_some.2 ⟨decide_eq_true hx, List.mem_range.2 hlt, fun i hi => by rw [ha i hi]; rfl⟩]
    · have hx : ¬ x = A.getD j 0 := h
      repeat' first | ((first | (with_reducible first | apply WB.tt | apply WB.ff) | apply Rn.seq | apply Rn.reg | apply Rn.drw | apply Rn.blk | apply Rn.skip | apply Rn.ret | apply Rn.exit | apply Rn.cond rfl | refine i64_ (by omega) (by omega) ?_ | refine ne0_ (by omega) ?_ | refine WIx.intsN (by omega) ?_ | refine WIx.rowsN (by omega) ?_) <;> conv => whnf)
      refine Again.to (j + 1) (by omega) ⟨by omega, fun i hi => ?_⟩ (Nat.le_refl _) ?_
      · by_cases e : i = j
        · subst e; exact decide_eq_false hx
        · exact ha i (by omega)
      (refine Shr.of ?_ ?_ rfl rfl) <;> (repeat' first | exact Rel.e | refine Rel.some ?_ ?_ ?_ | refine Rel.none ?_ ?_) <;> (try first | (show Fz _ _ _ _; first | exact Fz.pu trivial | (refine Fz.i ?_; first | rfl | omega) | (refine Fz.kpt ?_; (focus (show Pos.nat _ < Pos.nat _; simp [Pos.nat]; done))) | (refine Fz.ksl ?_; (focus (show Pos.nat _ < Pos.nat _; simp [Pos.nat]; done))) | (refine Fz.kmp ?_; (focus (show Pos.nat _ < Pos.nat _; simp [Pos.nat]; done))) | (refine Fz.pu ?_; simp [Cell.d, Pu, PuL, PuE, pu_ints, pu_rg, pu_mk, pu_seas, pu_tR]; done) | (refine Fz.pu ?_; simp only [Cell.d]; assumption)) | (refine RO'.of ?_ (ShC.same ?_); (focus (show Pos.nat _ < Pos.nat _; simp [Pos.nat]; done)); (repeat' first | exact ShC.nl | refine ShC.cn ?_ ?_) <;> first | exact Fz.pu trivial | (refine Fz.i ?_; first | rfl | omega) | (refine Fz.kpt ?_; (focus (show Pos.nat _ < Pos.nat _; simp [Pos.nat]; done))) | (refine Fz.ksl ?_; (focus (show Pos.nat _ < Pos.nat _; simp [Pos.nat]; done))) | (refine Fz.kmp ?_; (focus (show Pos.nat _ < Pos.nat _; simp [Pos.nat]; done))) | (refine Fz.pu ?_; simp [Cell.d, Pu, PuL, PuE, pu_ints, pu_rg, pu_mk, pu_seas, pu_tR]; done) | (refine Fz.pu ?_; simp only [Cell.d]; assumption)))
      all_goals first | (refine Fz.i ?_; omega) | (refine Fz.pu ?_; simp [Pu, pu_ints])
  · repeat' first | ((first | (with_reducible first | apply WB.tt | apply WB.ff) | apply Rn.seq | apply Rn.reg | apply Rn.drw | apply Rn.blk | apply Rn.skip | apply Rn.ret | apply Rn.exit | apply Rn.cond rfl | refine i64_ (by omega) (by omega) ?_ | refine ne0_ (by omega) ?_ | refine WIx.intsN (by omega) ?_ | refine WIx.rowsN (by omega) ?_) <;> conv => whnf)
    refine Fin.i rfl ?_
    unfold idxR
    rw [List.find?_range_eq_none.2 fun i hi => by rw [ha i (by omega)]; rfl]
def conR (A : List Int) (x : Int) : Bool := decide (0 ≤ idxR A x)
theorem c_Contains (A : List Int) (x : Int) (hl : A.length ≤ 1000) : PureF Try.prog p111.ix [.lst 1 (ints A), .i .i64 x] (.b (conR A x)) := by
  have iI := c_Index A x hl
  refine PureF.run fn110 (by simp) (by simp [PuL, PuE, Pu, pu_ints]) ?_; conv => whnf
  repeat' first | ((first | (with_reducible first | apply WB.tt | apply WB.ff) | apply Rn.seq | apply Rn.reg | apply Rn.drw | apply Rn.blk | apply Rn.skip | apply Rn.ret | apply Rn.exit | apply Rn.cond rfl | refine i64_ (by omega) (by omega) ?_ | refine ne0_ (by omega) ?_ | refine WIx.intsN (by omega) ?_ | refine WIx.rowsN (by omega) ?_ | refine WCall.pure (iI) ?_) <;> conv => whnf)
  exact Fin.b rfl rfl
theorem c_IndexN (x : Int) : PureF Try.prog p112.ix [.ns, .i .i64 x] (.i .i64 (-1)) := by
  refine PureF.run fn111 (by simp) (by simp [PuL, PuE, Pu]) ?_; conv => whnf
  repeat' first | ((first | (with_reducible first | apply WB.tt | apply WB.ff) | apply Rn.seq | apply Rn.reg | apply Rn.drw | apply Rn.blk | apply Rn.skip | apply Rn.ret | apply Rn.exit | apply Rn.cond rfl | refine i64_ (by omega) (by omega) ?_ | refine ne0_ (by omega) ?_ | refine WIx.intsN (by omega) ?_ | refine WIx.rowsN (by omega) ?_) <;> conv => whnf)
  refine Rn.loop (fun _ : Nat => ⟨(.n (.n (.n (.n .e (some (.i .i64 0)) .e) none .e) (some (.i .i64 x)) .e) (some (.ns)) (.n (.n (.n .e (some (.i .i64 0)) .e) none .e) none .e)), .e, .h, none⟩) (fun _ => True) (fun _ => 0) 0 ?_ ?_ ?_
  · (first | (refine X.le.mk ?_ ?_ (Nat.le_refl _) rfl rfl) | skip) <;> (repeat' first | exact T.le_e _ | refine T.le_some ?_ ?_ ?_ | refine T.le_none ?_ ?_ | rfl)
  · trivial
  intro j _
  conv => whnf
  repeat' first | ((first | (with_reducible first | apply WB.tt | apply WB.ff) | apply Rn.seq | apply Rn.reg | apply Rn.drw | apply Rn.blk | apply Rn.skip | apply Rn.ret | apply Rn.exit | apply Rn.cond rfl | refine i64_ (by omega) (by omega) ?_ | refine ne0_ (by omega) ?_ | refine WIx.intsN (by omega) ?_ | refine WIx.rowsN (by omega) ?_) <;> conv => whnf)
  refine WB.ff ?_; conv => whnf
  repeat' first | ((first | (with_reducible first | apply WB.tt | apply WB.ff) | apply Rn.seq | apply Rn.reg | apply Rn.drw | apply Rn.blk | apply Rn.skip | apply Rn.ret | apply Rn.exit | apply Rn.cond rfl | refine i64_ (by omega) (by omega) ?_ | refine ne0_ (by omega) ?_ | refine WIx.intsN (by omega) ?_ | refine WIx.rowsN (by omega) ?_) <;> conv => whnf)
  exact Fin.i rfl rfl
theorem c_ContainsN (x : Int) : PureF Try.prog p111.ix [.ns, .i .i64 x] (.b (conR [] x)) := by
  have iI := c_IndexN x
  refine PureF.run fn110 (by simp) (by simp [PuL, PuE, Pu]) ?_; conv => whnf
  repeat' first | ((first | (with_reducible first | apply WB.tt | apply WB.ff) | apply Rn.seq | apply Rn.reg | apply Rn.drw | apply Rn.blk | apply Rn.skip | apply Rn.ret | apply Rn.exit | apply Rn.cond rfl | refine i64_ (by omega) (by omega) ?_ | refine ne0_ (by omega) ?_ | refine WIx.intsN (by omega) ?_ | refine WIx.rowsN (by omega) ?_ | refine WCall.pure (iI) ?_) <;> conv => whnf)
  exact Fin.b rfl rfl
def slW : List Mk → D
  | [] => .ns
  | _ :: s => .sl (.o (.o .h)) 0 (s.length + 1) s.length 4
def blW : List Mk → Option C
  | [] => none
  | a :: s => some (.cells false ((mkF (a :: s)).map fun d => Cell.o d s.length) (s.length + 1))
def nxW : List Mk → Pos
  | [] => .o .h
  | _ :: _ => .i (.o .h)
theorem slW_snoc (a : Mk) (s : List Mk) (x : Mk) : slW (a :: (s ++ [x])) = .sl (.o (.o .h)) 0 (s.length + 1 + 1) (s.length + 1) 4 := by simp [slW]
theorem blW_snoc (a : Mk) (s : List Mk) (x : Mk) : blW (a :: (s ++ [x])) = some (.cells false ((mkF (a :: s) ++ mkD x).map fun d => Cell.o d (s.length + 1)) (s.length + 1 + 1)) := by
  have h2 : mkF (a :: (s ++ [x])) = mkF (a :: s) ++ mkD x := mkF_snoc (a :: s) x
  simp [blW, h2]
def woJ (ms : List Mk) (S : List Int) (j : Nat) : List Mk := ((List.range j).filter fun i : Nat => !conR S (i : Int)).map fun i => ms.getD i default
def woR (ms : List Mk) (S : List Int) : List Mk := woJ ms S ms.length
theorem woJ_succ (ms : List Mk) (S : List Int) (j : Nat) : woJ ms S (j + 1) = if conR S (j : Int) = true then woJ ms S j else woJ ms S j ++ [ms.getD j default] := by
  unfold woJ
  rw [List.range_succ, List.filter_append, List.map_append]
  cases h : conR S (j : Int) with
  | true => rw [if_pos rfl]; simp [h]
  | false => rw [if_neg (by decide)]; simp [h]
def woS (ms : List Mk) (sd : D) (A : List Mk) (j : Nat) : X := ⟨(.n (.n (.n .e none (.n .e (some (.i .i64 (ms.length : Int))) .e)) (some (sd)) (.n .e (some (slW A)) .e)) none (.n (.n .e none (.n .e (some (.i .i64 (j : Int))) .e)) none (.n (.n .e (some (.lst 4 (rows mkD ms))) .e) none .e))), .n (.n (.n .e (blW A) .e) none .e) none .e, nxW A, none⟩
theorem c_without (last : Int) (hs : List Rg) (step : Int) (lv : List Int) (ms : List Mk) (tr : D) (htr : Pu tr) (S : List Int) (hm : ms.length ≤ 1000) (sd : D) (hsd : Pu sd) (hC : ∀ j : Nat, PureF Try.prog p111.ix [sd, .i .i64 (j : Int)] (.b (conR S (j : Int)))) : PureF Try.prog p105.ix [.ag [.i .i64 last, .lst 2 (rows rgD hs), .i .i64 step, .lst 1 (ints lv), .lst 4 (rows mkD ms), tr], sd] (.lst 4 (rows mkD (woR ms S))) := by
  have e3 := rows_length mkD ms
  refine PureF.run fn104 (by simp) (by simp [PuL, PuE, Pu, pu_ints, pu_rg, pu_mk, htr, hsd]) ?_; conv => whnf
  repeat' first | ((first | (with_reducible first | apply WB.tt | apply WB.ff) | apply Rn.seq | apply Rn.reg | apply Rn.drw | apply Rn.blk | apply Rn.skip | apply Rn.ret | apply Rn.exit | apply Rn.cond rfl | refine i64_ (by omega) (by omega) ?_ | refine ne0_ (by omega) ?_ | refine WIx.intsN (by omega) ?_ | refine WIx.rowsN (by omega) ?_) <;> conv => whnf)
  refine Rn.loop (fun j : Nat => woS ms sd (woJ ms S j) j) (fun j => j ≤ ms.length) (fun j => ms.length - j) 0 ?_ ?_ ?_
  · refine X.le.mk ?_ ?_ (Nat.le_refl _) rfl rfl
    · show T.le ((.n (.n (.n .e none (.n .e (some (.i .i64 (ms.length : Int))) .e)) (some (sd)) (.n .e (some (.ns)) .e)) none (.n (.n .e none (.n .e (some (.i .i64 ((0 : Nat) : Int))) .e)) none (.n (.n .e (some (.lst 4 (rows mkD ms))) .e) none .e))) : T D) _
      rw [← e3]
      (repeat' first | exact T.le_e _ | refine T.le_some ?_ rfl ?_ | refine T.le_none ?_ ?_)
    · show T.le (.n (.n (.n .e none .e) none .e) none .e) _
      (repeat' first | exact T.le_e _ | refine T.le_some ?_ rfl ?_ | refine T.le_none ?_ ?_ | refine T.le_ee ?_ ?_)
  · exact Nat.zero_le _
  intro j hj
  have hj : j ≤ ms.length := hj
  have hsc := woJ_succ ms S j
  have hAl : (woJ ms S j).length ≤ 1000 := by
    unfold woJ
    rw [List.length_map]
    have := List.length_filter_le (fun i : Nat => !conR S (i : Int)) (List.range j)
    rw [List.length_range] at this
    omega
  have hend : j = ms.length → woJ ms S j = woR ms S := fun e => by rw [e]; rfl
  generalize hA : woJ ms S j = A at *
  conv => whnf
  repeat' first | ((first | (with_reducible first | apply WB.tt | apply WB.ff) | apply Rn.seq | apply Rn.reg | apply Rn.drw | apply Rn.blk | apply Rn.skip | apply Rn.ret | apply Rn.exit | apply Rn.cond rfl | refine i64_ (by omega) (by omega) ?_ | refine ne0_ (by omega) ?_ | refine WIx.intsN (by omega) ?_ | refine WIx.rowsN (by omega) ?_) <;> conv => whnf)
  refine WB.dec (fun h => ?_) (fun h => ?_) <;> conv => whnf
  · have hlt : j < ms.length := by omega
    have cC := hC j
    cases hc : conR S (j : Int) with
    | true =>
      rw [hc] at cC
      rw [hc, if_pos rfl] at hsc
      cases A with
      | nil =>
        repeat' first | ((first | (with_reducible first | apply WB.tt | apply WB.ff) | apply Rn.seq | apply Rn.reg | apply Rn.drw | apply Rn.blk | apply Rn.skip | apply Rn.ret | apply Rn.exit | apply Rn.cond rfl | refine i64_ (by omega) (by omega) ?_ | refine ne0_ (by omega) ?_ | refine WIx.intsN (by omega) ?_ | refine WIx.rowsN (by omega) ?_ | refine WCall.pure (cC) ?_) <;> conv => whnf)
        refine WB.ff ?_; conv => whnf
        repeat' first | ((first | (with_reducible first | apply WB.tt | apply WB.ff) | apply Rn.seq | apply Rn.reg | apply Rn.drw | apply Rn.blk | apply Rn.skip | apply Rn.ret | apply Rn.exit | apply Rn.cond rfl | refine i64_ (by omega) (by omega) ?_ | refine ne0_ (by omega) ?_ | refine WIx.intsN (by omega) ?_ | refine WIx.rowsN (by omega) ?_) <;> conv => whnf)
        refine Again.to (j + 1) (by omega) (by omega) (by show (nxW (woJ ms S j)).nat ≤ (nxW (woJ ms S (j + 1))).nat; rw [hA, hsc]; exact (show 2 ≤ 2 by omega)) ?_
        show Shr _ (woS ms sd (woJ ms S (j + 1)) (j + 1))
        rw [hsc]
        refine Shr.of ?_ ?_ rfl rfl
        · show Rel _ _ ((.n (.n (.n .e none (.n .e (some (.i .i64 (ms.length : Int))) .e)) (some (sd)) (.n .e (some (.ns)) .e)) none (.n (.n .e none (.n .e (some (.i .i64 ((j + 1 : Nat) : Int))) .e)) none (.n (.n .e (some (.lst 4 (rows mkD ms))) .e) none .e))) : T D) _
          skip
          (repeat' first | exact Rel.e | refine Rel.some ?_ ?_ ?_ | refine Rel.none ?_ ?_ | refine Rel.ee ?_ ?_)
          all_goals show Fz _ _ _ _
          all_goals first | exact .pu trivial | exact .pu hsd | exact .pu (pu_mk _) | exact .ksl (show _ < 5 by simp [Pos.nat])
        · show Rel _ _ (.n (.n (.n .e none .e) none .e) none .e) _
          skip
          (repeat' first | exact Rel.e | refine Rel.some ?_ ?_ ?_ | refine Rel.none ?_ ?_ | refine Rel.ee ?_ ?_)
          skip
      | cons a s =>
        repeat' first | ((first | (with_reducible first | apply WB.tt | apply WB.ff) | apply Rn.seq | apply Rn.reg | apply Rn.drw | apply Rn.blk | apply Rn.skip | apply Rn.ret | apply Rn.exit | apply Rn.cond rfl | refine i64_ (by omega) (by omega) ?_ | refine ne0_ (by omega) ?_ | refine WIx.intsN (by omega) ?_ | refine WIx.rowsN (by omega) ?_ | refine WCall.pure (cC) ?_) <;> conv => whnf)
        refine WB.ff ?_; conv => whnf
        repeat' first | ((first | (with_reducible first | apply WB.tt | apply WB.ff) | apply Rn.seq | apply Rn.reg | apply Rn.drw | apply Rn.blk | apply Rn.skip | apply Rn.ret | apply Rn.exit | apply Rn.cond rfl | refine i64_ (by omega) (by omega) ?_ | refine ne0_ (by omega) ?_ | refine WIx.intsN (by omega) ?_ | refine WIx.rowsN (by omega) ?_) <;> conv => whnf)
        refine Again.to (j + 1) (by omega) (by omega) (by show (nxW (woJ ms S j)).nat ≤ (nxW (woJ ms S (j + 1))).nat; rw [hA, hsc]; exact (show 5 ≤ 5 by omega)) ?_
        show Shr _ (woS ms sd (woJ ms S (j + 1)) (j + 1))
        rw [hsc]
        refine Shr.of ?_ ?_ rfl rfl
        · show Rel _ _ ((.n (.n (.n .e none (.n .e (some (.i .i64 (ms.length : Int))) .e)) (some (sd)) (.n .e (some ((.sl (.o (.o .h)) 0 (s.length + 1) s.length 4))) .e)) none (.n (.n .e none (.n .e (some (.i .i64 ((j + 1 : Nat) : Int))) .e)) none (.n (.n .e (some (.lst 4 (rows mkD ms))) .e) none .e))) : T D) _
          skip
          (repeat' first | exact Rel.e | refine Rel.some ?_ ?_ ?_ | refine Rel.none ?_ ?_ | refine Rel.ee ?_ ?_)
          all_goals show Fz _ _ _ _
          all_goals first | exact .pu trivial | exact .pu hsd | exact .pu (pu_mk _) | exact .ksl (show _ < 5 by simp [Pos.nat])
        · show Rel _ _ (.n (.n (.n .e (some (C.cells false ((mkF (a :: s)).map fun d => Cell.o d s.length) (s.length + 1))) .e) none .e) none .e) _
          skip
          (repeat' first | exact Rel.e | refine Rel.some ?_ ?_ ?_ | refine Rel.none ?_ ?_ | refine Rel.ee ?_ ?_)
          exact RO'.of (show _ < 5 by simp [Pos.nat]) (ShC.same fun c hc => by
            obtain ⟨d, hd, rfl⟩ := List.mem_map.1 hc
            exact .pu (PuL_iff.1 (pu_mkF _) d hd))
    | false =>
      rw [hc] at cC
      rw [hc, if_neg (by decide)] at hsc
      cases A with
      | nil =>
        repeat' first | ((first | (with_reducible first | apply WB.tt | apply WB.ff) | apply Rn.seq | apply Rn.reg | apply Rn.drw | apply Rn.blk | apply Rn.skip | apply Rn.ret | apply Rn.exit | apply Rn.cond rfl | refine i64_ (by omega) (by omega) ?_ | refine ne0_ (by omega) ?_ | refine WIx.intsN (by omega) ?_ | refine WIx.rowsN (by omega) ?_ | refine WCall.pure (cC) ?_) <;> conv => whnf)
        refine WB.tt ?_; conv => whnf
        repeat' first | ((first | (with_reducible first | apply WB.tt | apply WB.ff) | apply Rn.seq | apply Rn.reg | apply Rn.drw | apply Rn.blk | apply Rn.skip | apply Rn.ret | apply Rn.exit | apply Rn.cond rfl | refine i64_ (by omega) (by omega) ?_ | refine ne0_ (by omega) ?_ | refine WIx.intsN (by omega) ?_ | refine WIx.rowsN (by omega) ?_) <;> conv => whnf)
        refine WSt.app_first (r := mkD (ms.getD j default)) rfl (.inl rfl) rfl rfl rfl rfl ?_; conv => whnf
        repeat' first | ((first | (with_reducible first | apply WB.tt | apply WB.ff) | apply Rn.seq | apply Rn.reg | apply Rn.drw | apply Rn.blk | apply Rn.skip | apply Rn.ret | apply Rn.exit | apply Rn.cond rfl | refine i64_ (by omega) (by omega) ?_ | refine ne0_ (by omega) ?_ | refine WIx.intsN (by omega) ?_ | refine WIx.rowsN (by omega) ?_) <;> conv => whnf)
        refine Again.to (j + 1) (by omega) (by omega) (by show (nxW (woJ ms S j)).nat ≤ (nxW (woJ ms S (j + 1))).nat; rw [hA, hsc]; exact (show 2 ≤ 5 by omega)) ?_
        show Shr _ (woS ms sd (woJ ms S (j + 1)) (j + 1))
        rw [hsc]
        refine Shr.of ?_ ?_ rfl rfl
        · show Rel _ _ ((.n (.n (.n .e none (.n .e (some (.i .i64 (ms.length : Int))) .e)) (some (sd)) (.n .e (some ((.sl (.o (.o .h)) 0 1 0 4))) .e)) none (.n (.n .e none (.n .e (some (.i .i64 ((j + 1 : Nat) : Int))) .e)) none (.n (.n .e (some (.lst 4 (rows mkD ms))) .e) none .e))) : T D) _
          skip
          (repeat' first | exact Rel.e | refine Rel.some ?_ ?_ ?_ | refine Rel.none ?_ ?_ | refine Rel.ee ?_ ?_)
          all_goals show Fz _ _ _ _
          all_goals first | exact .pu trivial | exact .pu hsd | exact .pu (pu_mk _) | exact .ksl (show _ < 5 by simp [Pos.nat])
        · show Rel _ _ (.n (.n (.n .e (some (C.cells false ((mkF [ms.getD j default]).map fun d => Cell.o d 0) 1)) .e) none .e) none .e) _
          skip
          (repeat' first | exact Rel.e | refine Rel.some ?_ ?_ ?_ | refine Rel.none ?_ ?_ | refine Rel.ee ?_ ?_)
          rw [show mkF [ms.getD j default] = mkD (ms.getD j default) by simp [mkF, rows]]
          exact RO'.of (show _ < 5 by simp [Pos.nat]) (ShC.same (ShC.cn (.pu trivial) (ShC.cn (.pu trivial) (ShC.cn (.pu trivial) (ShC.cn (.pu trivial) ShC.nl)))))
      | cons a s =>
        have hs5 : s.length + 1 ≤ 1000 := hAl
        repeat' first | ((first | (with_reducible first | apply WB.tt | apply WB.ff) | apply Rn.seq | apply Rn.reg | apply Rn.drw | apply Rn.blk | apply Rn.skip | apply Rn.ret | apply Rn.exit | apply Rn.cond rfl | refine i64_ (by omega) (by omega) ?_ | refine ne0_ (by omega) ?_ | refine WIx.intsN (by omega) ?_ | refine WIx.rowsN (by omega) ?_ | refine WCall.pure (cC) ?_) <;> conv => whnf)
        refine WB.tt ?_; conv => whnf
        repeat' first | ((first | (with_reducible first | apply WB.tt | apply WB.ff) | apply Rn.seq | apply Rn.reg | apply Rn.drw | apply Rn.blk | apply Rn.skip | apply Rn.ret | apply Rn.exit | apply Rn.cond rfl | refine i64_ (by omega) (by omega) ?_ | refine ne0_ (by omega) ?_ | refine WIx.intsN (by omega) ?_ | refine WIx.rowsN (by omega) ?_) <;> conv => whnf)
        refine WSt.app_one (ds := mkF (a :: s)) (r := mkD (ms.getD j default)) rfl rfl rfl rfl rfl rfl (by rw [mkF_length]; rfl) rfl rfl (by omega) rfl ?_; conv => whnf
        repeat' first | ((first | (with_reducible first | apply WB.tt | apply WB.ff) | apply Rn.seq | apply Rn.reg | apply Rn.drw | apply Rn.blk | apply Rn.skip | apply Rn.ret | apply Rn.exit | apply Rn.cond rfl | refine i64_ (by omega) (by omega) ?_ | refine ne0_ (by omega) ?_ | refine WIx.intsN (by omega) ?_ | refine WIx.rowsN (by omega) ?_) <;> conv => whnf)
        refine Again.to (j + 1) (by omega) (by omega) (by show (nxW (woJ ms S j)).nat ≤ (nxW (woJ ms S (j + 1))).nat; rw [hA, hsc, List.cons_append]; exact (show 5 ≤ 5 by omega)) ?_
        show Shr _ (woS ms sd (woJ ms S (j + 1)) (j + 1))
        rw [hsc, List.cons_append]
        refine Shr.of ?_ ?_ rfl rfl
        · show Rel _ _ ((.n (.n (.n .e none (.n .e (some (.i .i64 (ms.length : Int))) .e)) (some (sd)) (.n .e (some ((slW (a :: (s ++ [ms.getD j default]))))) .e)) none (.n (.n .e none (.n .e (some (.i .i64 ((j + 1 : Nat) : Int))) .e)) none (.n (.n .e (some (.lst 4 (rows mkD ms))) .e) none .e))) : T D) _
          rw [slW_snoc]
          (repeat' first | exact Rel.e | refine Rel.some ?_ ?_ ?_ | refine Rel.none ?_ ?_ | refine Rel.ee ?_ ?_)
          all_goals show Fz _ _ _ _
          all_goals first | exact .pu trivial | exact .pu hsd | exact .pu (pu_mk _) | exact .ksl (show _ < 5 by simp [Pos.nat])
        · show Rel _ _ (.n (.n (.n .e (blW (a :: (s ++ [ms.getD j default]))) .e) none .e) none .e) _
          rw [blW_snoc]
          (repeat' first | exact Rel.e | refine Rel.some ?_ ?_ ?_ | refine Rel.none ?_ ?_ | refine Rel.ee ?_ ?_)
          exact RO'.of (show _ < 5 by simp [Pos.nat]) (ShC.grown (by omega) (PuL_iff.2 fun d hd => by
            rcases List.mem_append.1 hd with hd | hd
            · exact PuL_iff.1 (pu_mkF _) d hd
            · exact PuL_iff.1 (show PuL (mkD _) by simp [mkD, PuL, Pu]) d hd))
  · have he := hend (by omega)
    rw [← he]
    cases A with
    | nil =>
      repeat' first | ((first | (with_reducible first | apply WB.tt | apply WB.ff) | apply Rn.seq | apply Rn.reg | apply Rn.drw | apply Rn.blk | apply Rn.skip | apply Rn.ret | apply Rn.exit | apply Rn.cond rfl | refine i64_ (by omega) (by omega) ?_ | refine ne0_ (by omega) ?_ | refine WIx.intsN (by omega) ?_ | refine WIx.rowsN (by omega) ?_) <;> conv => whnf)
      exact Fin.t (.inr rfl) rfl .ns
    | cons a s =>
      repeat' first | ((first | (with_reducible first | apply WB.tt | apply WB.ff) | apply Rn.seq | apply Rn.reg | apply Rn.drw | apply Rn.blk | apply Rn.skip | apply Rn.ret | apply Rn.exit | apply Rn.cond rfl | refine i64_ (by omega) (by omega) ?_ | refine ne0_ (by omega) ?_ | refine WIx.intsN (by omega) ?_ | refine WIx.rowsN (by omega) ?_) <;> conv => whnf)
      exact Fin.t (.inr rfl) rfl (Frz.whole (cs := (mkF (a :: s)).map fun d => Cell.o d s.length) (cur := s.length + 1) rfl (by simp [rows]) (mk_four _) (by rfl) (pu_mk _))
def setD : List Int → D
  | [] => .ns
  | a :: l => .lst 1 (ints (a :: l))
theorem c_withoutS (last : Int) (hs : List Rg) (step : Int) (lv : List Int) (ms : List Mk) (tr : D) (htr : Pu tr) (S : List Int) (hm : ms.length ≤ 1000) (hS : S.length ≤ 1000) : PureF Try.prog p105.ix [.ag [.i .i64 last, .lst 2 (rows rgD hs), .i .i64 step, .lst 1 (ints lv), .lst 4 (rows mkD ms), tr], setD S] (.lst 4 (rows mkD (woR ms S))) := by
  cases S with
  | nil => exact c_without last hs step lv ms tr htr [] hm .ns trivial fun j => c_ContainsN (j : Int)
  | cons a l => exact c_without last hs step lv ms tr htr (a :: l) hm (.lst 1 (ints (a :: l))) (pu_ints _) fun j => c_Contains (a :: l) (j : Int) hS
end Go.Ev
