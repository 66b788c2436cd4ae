import Derived.Test.YtpemagogcagipaaEvMN
set_option linter.all false
namespace Go.Ev
open Go.Proofs
set_option maxRecDepth 100000
theorem binK_and (a b : Int) (f : D → Option X) : binK .and (.i .i64 a) (.i .i64 b) f = wrapK .i64 (iand .i64 a b) f := rfl
theorem ub_le {a : Nat} (h : a < 1024) : Nat.ble a (ubits .i64) = true := Nat.ble_eq_true_of_le (Nat.le_trans (show a ≤ 1023 by omega) (of_decide_eq_true rfl))
theorem WSt.orB {sl : T D} {ob : T C} {nx : Pos} {lg : Option (T Bool)} {K : X → Prop} {d : Pos} {a b : Nat} {x y : RX} (hx : opd sl x = some (.i .i64 (a : Int))) (hy : opd sl y = some (.i .i64 (b : Int))) (ha : a < 1024) (hb : b < 1024) (k : wOut sl ob nx lg d K (.i .i64 ((a ||| b : Nat) : Int))) : WSt (.bin d .or x y) ⟨sl, ob, nx, lg⟩ K := by
  obtain ⟨k2, k3⟩ := wOut_ok k
  refine ⟨_, ?_, k3⟩
  show s_bin d .or x y sl ob nx lg = _
  unfold s_bin
  rw [hx, hy]
  have hs : ior .i64 ((a : Nat) : Int) ((b : Nat) : Int) = ((a ||| b : Nat) : Int) := ibit_nat slowOr (fun _ m n => Nat.lor m n) .i64 a b (ub_le ha) (ub_le hb)
  have hlt : a ||| b < 2 ^ 10 := Nat.or_lt_two_pow (by omega) (by omega)
  show binK .or (.i .i64 ((a : Nat) : Int)) (.i .i64 ((b : Nat) : Int)) _ = _
  rw [binK_or, hs, wrapK_eq]
  have hw : IntKind.i64.wrap ((a ||| b : Nat) : Int) = ((a ||| b : Nat) : Int) := InR.i64 (by omega) (by omega)
  rw [hw]
  exact k2
theorem WSt.andB {sl : T D} {ob : T C} {nx : Pos} {lg : Option (T Bool)} {K : X → Prop} {d : Pos} {a b : Nat} {x y : RX} (hx : opd sl x = some (.i .i64 (a : Int))) (hy : opd sl y = some (.i .i64 (b : Int))) (ha : a < 1024) (hb : b < 1024) (k : wOut sl ob nx lg d K (.i .i64 ((a &&& b : Nat) : Int))) : WSt (.bin d .and x y) ⟨sl, ob, nx, lg⟩ K := by
  obtain ⟨k2, k3⟩ := wOut_ok k
  refine ⟨_, ?_, k3⟩
  show s_bin d .and x y sl ob nx lg = _
  unfold s_bin
  rw [hx, hy]
  have hs : iand .i64 ((a : Nat) : Int) ((b : Nat) : Int) = ((a &&& b : Nat) : Int) := ibit_nat slowAnd (fun _ m n => Nat.land m n) .i64 a b (ub_le ha) (ub_le hb)
  have hlt : a &&& b ≤ a := Nat.and_le_left
  show binK .and (.i .i64 ((a : Nat) : Int)) (.i .i64 ((b : Nat) : Int)) _ = _
  rw [binK_and, hs, wrapK_eq]
  have hw : IntKind.i64.wrap ((a &&& b : Nat) : Int) = ((a &&& b : Nat) : Int) := InR.i64 (by omega) (by omega)
  rw [hw]
  exact k2
def bitsN (p : Nat → Bool) (n : Nat) : Nat := (List.range n).foldl (fun b k => if p k = true then b ||| 1 * 2 ^ k else b) 0
theorem bitsN_succ (p : Nat → Bool) (n : Nat) : bitsN p (n + 1) = if p n = true then bitsN p n ||| 1 * 2 ^ n else bitsN p n := by
  unfold bitsN
  rw [List.range_succ, List.foldl_append]
  rfl
theorem bitsN_lt (p : Nat → Bool) : ∀ n, bitsN p n < 2 ^ n
  | 0 => by show 0 < 1; omega
  | n + 1 => by
    have h := bitsN_lt p n
    have h2 : (2 : Nat) ^ (n + 1) = 2 * 2 ^ n := by rw [Nat.pow_succ]; omega
    rw [bitsN_succ]
    split
    · exact Nat.or_lt_two_pow (by omega) (by have := Nat.one_le_two_pow (n := n); omega)
    · omega
theorem bitsN_test (p : Nat → Bool) : ∀ n q, (bitsN p n).testBit q = (decide (q < n) && p q)
  | 0, q => by
    rw [decide_eq_false (Nat.not_lt_zero q), Bool.false_and]
    exact Nat.zero_testBit q
  | n + 1, q => by
    rw [bitsN_succ]
    have ih := bitsN_test p n q
    by_cases hp : p n = true
    · rw [if_pos hp, bits_or, ih]
      by_cases e : n = q
      · subst e
        rw [hp, decide_eq_true (show n < n + 1 by omega)]
        simp
      · rw [decide_eq_false e, Bool.or_false]
        by_cases e2 : q < n
        · rw [decide_eq_true e2, decide_eq_true (show q < n + 1 by omega)]
        · rw [decide_eq_false e2, decide_eq_false (show ¬ q < n + 1 by omega)]
    · rw [if_neg hp, ih]
      have hp : p n = false := by simpa using hp
      by_cases e : n = q
      · subst e
        rw [hp]
        simp
      · by_cases e2 : q < n
        · rw [decide_eq_true e2, decide_eq_true (show q < n + 1 by omega)]
        · rw [decide_eq_false e2, decide_eq_false (show ¬ q < n + 1 by omega)]
def natI (A : List Nat) : List Int := A.map fun n : Nat => (n : Int)
theorem natI_at {A : List Nat} {j : Nat} : (natI A).getD j 0 = ((A.getD j 0 : Nat) : Int) := by
  unfold natI
  by_cases h : j < A.length
  · simp [List.getD, h]
  · simp [List.getD, List.getElem?_eq_none (show A.length ≤ j by omega)]
theorem natI_length (A : List Nat) : (natI A).length = A.length := List.length_map _
theorem c_Full (last : Int) (hs : List Rg) (step : Int) (lv : List Int) (ms : List Mk) (hm : ms.length ≤ 9) : PureF Try.prog p60.ix [.ag [.i .i64 last, .lst 2 (rows rgD hs), .i .i64 step, .lst 1 (ints lv), .lst 4 (rows mkD ms)]] (.i .i64 ((2 ^ ms.length - 1 : Nat) : Int)) := by
  have e3 := rows_length mkD ms
  have hp := Nat.one_le_two_pow (n := ms.length)
  have hp2 : 2 ^ ms.length ≤ 2 ^ 9 := Nat.pow_le_pow_right (by omega) hm
  rw [← e3] at hp hp2 ⊢
  refine PureF.run fn59 (by simp) (by simp [PuL, PuE, Pu, pu_ints, pu_rg, pu_mk]) ?_; conv => whnf
  repeat' first | ((with_reducible apply WB.tt); conv => whnf) | ((with_reducible apply WB.ff); conv => whnf) | (refine Rn.seq ?_; conv => whnf) | (refine Rn.reg ?_; conv => whnf) | (refine Rn.drw ?_; conv => whnf) | (refine Rn.blk ?_; conv => whnf) | (refine Rn.skip ?_; conv => whnf) | (refine Rn.ret ?_; conv => whnf) | (refine Rn.exit ?_; conv => whnf) | (refine Rn.cond rfl ?_; conv => whnf) | (refine And.intro (InR.i64 (by omega) (by omega)) ?_; conv => whnf) | (refine And.intro (show _ ≠ (0 : Int) by omega) ?_; conv => whnf) | (refine WIx.intsN (by omega) ?_; conv => whnf) | (refine WIx.rowsN (by omega) ?_; conv => whnf)
  refine And.intro (InR.u64 (by omega) (by omega)) ?_; conv => whnf
  repeat' first | ((with_reducible apply WB.tt); conv => whnf) | ((with_reducible apply WB.ff); conv => whnf) | (refine Rn.seq ?_; conv => whnf) | (refine Rn.reg ?_; conv => whnf) | (refine Rn.drw ?_; conv => whnf) | (refine Rn.blk ?_; conv => whnf) | (refine Rn.skip ?_; conv => whnf) | (refine Rn.ret ?_; conv => whnf) | (refine Rn.exit ?_; conv => whnf) | (refine Rn.cond rfl ?_; conv => whnf) | (refine And.intro (InR.i64 (by omega) (by omega)) ?_; conv => whnf) | (refine And.intro (show _ ≠ (0 : Int) by omega) ?_; conv => whnf) | (refine WIx.intsN (by omega) ?_; conv => whnf) | (refine WIx.rowsN (by omega) ?_; conv => whnf)
  refine WSt.shlN (a := 1) (by rfl) (by rfl) (by rw [Nat.one_mul]; omega) (by omega) ?_; conv => whnf
  repeat' first | ((with_reducible apply WB.tt); conv => whnf) | ((with_reducible apply WB.ff); conv => whnf) | (refine Rn.seq ?_; conv => whnf) | (refine Rn.reg ?_; conv => whnf) | (refine Rn.drw ?_; conv => whnf) | (refine Rn.blk ?_; conv => whnf) | (refine Rn.skip ?_; conv => whnf) | (refine Rn.ret ?_; conv => whnf) | (refine Rn.exit ?_; conv => whnf) | (refine Rn.cond rfl ?_; conv => whnf) | (refine And.intro (InR.i64 (by omega) (by omega)) ?_; conv => whnf) | (refine And.intro (show _ ≠ (0 : Int) by omega) ?_; conv => whnf) | (refine WIx.intsN (by omega) ?_; conv => whnf) | (refine WIx.rowsN (by omega) ?_; conv => whnf)
  exact Fin.i rfl (by omega)
def canB (A : List Nat) (m : Nat) : Bool := (List.range A.length).any fun i => decide (A.getD i 0 &&& m = m)
theorem c_Can (A : List Nat) (m : Nat) (hl : A.length ≤ 3000) (hA : ∀ b ∈ A, b < 1024) (hm : m < 1024) : PureF Try.prog p85.ix [.lst 1 (ints (natI A)), .i .i64 (m : Int)] (.b (canB A m)) := by
  have e1 := (ints_length (natI A)).trans (natI_length A)
  have e2 := natI_length A
  refine PureF.run fn84 (by simp) (by simp [PuL, PuE, Pu, pu_ints]) ?_; conv => whnf
  repeat' first | ((with_reducible apply WB.tt); conv => whnf) | ((with_reducible apply WB.ff); conv => whnf) | (refine Rn.seq ?_; conv => whnf) | (refine Rn.reg ?_; conv => whnf) | (refine Rn.drw ?_; conv => whnf) | (refine Rn.blk ?_; conv => whnf) | (refine Rn.skip ?_; conv => whnf) | (refine Rn.ret ?_; conv => whnf) | (refine Rn.exit ?_; conv => whnf) | (refine Rn.cond rfl ?_; conv => whnf) | (refine And.intro (InR.i64 (by omega) (by omega)) ?_; conv => whnf) | (refine And.intro (show _ ≠ (0 : Int) by omega) ?_; conv => whnf) | (refine WIx.intsN (by omega) ?_; conv => whnf) | (refine WIx.rowsN (by omega) ?_; conv => whnf)
  refine Rn.loop (fun j : Nat => ⟨(.n (.n .e (some (.i .i64 (m : Int))) (.n .e (some (.i .i64 (j : Int))) .e)) (some (.lst 1 (ints (natI A)))) .e), .e, .h, none⟩) (fun j => j ≤ A.length ∧ ∀ i, i < j → decide (A.getD i 0 &&& m = m) = false) (fun j => A.length - j) 0 ?_ ?_ ?_
  · (first | (refine X.le.mk ?_ ?_ (Nat.le_refl _) rfl rfl) | skip) <;> (repeat' first | exact T.le_e _ | refine T.le_some ?_ ?_ ?_ | refine T.le_none ?_ ?_ | rfl)
  · exact ⟨Nat.zero_le _, fun i h => by omega⟩
  rintro j ⟨hj, ha⟩
  conv => whnf
  repeat' first | ((with_reducible apply WB.tt); conv => whnf) | ((with_reducible apply WB.ff); conv => whnf) | (refine Rn.seq ?_; conv => whnf) | (refine Rn.reg ?_; conv => whnf) | (refine Rn.drw ?_; conv => whnf) | (refine Rn.blk ?_; conv => whnf) | (refine Rn.skip ?_; conv => whnf) | (refine Rn.ret ?_; conv => whnf) | (refine Rn.exit ?_; conv => whnf) | (refine Rn.cond rfl ?_; conv => whnf) | (refine And.intro (InR.i64 (by omega) (by omega)) ?_; conv => whnf) | (refine And.intro (show _ ≠ (0 : Int) by omega) ?_; conv => whnf) | (refine WIx.intsN (by omega) ?_; conv => whnf) | (refine WIx.rowsN (by omega) ?_; conv => whnf)
  refine WB.dec (fun h => ?_) (fun h => ?_) <;> conv => whnf
  · have hlt : j < A.length := by omega
    have hlt2 : j < (natI A).length := by omega
    have hb := hA _ (getD_mem (d := 0) hlt)
    have hat := natI_at (A := A) (j := j)
    repeat' first | ((with_reducible apply WB.tt); conv => whnf) | ((with_reducible apply WB.ff); conv => whnf) | (refine Rn.seq ?_; conv => whnf) | (refine Rn.reg ?_; conv => whnf) | (refine Rn.drw ?_; conv => whnf) | (refine Rn.blk ?_; conv => whnf) | (refine Rn.skip ?_; conv => whnf) | (refine Rn.ret ?_; conv => whnf) | (refine Rn.exit ?_; conv => whnf) | (refine Rn.cond rfl ?_; conv => whnf) | (refine And.intro (InR.i64 (by omega) (by omega)) ?_; conv => whnf) | (refine And.intro (show _ ≠ (0 : Int) by omega) ?_; conv => whnf) | (refine WIx.intsN (by omega) ?_; conv => whnf) | (refine WIx.rowsN (by omega) ?_; conv => whnf)
    refine WSt.andB (a := A.getD j 0) (b := m) (by rw [← hat]; rfl) (by rfl) hb hm ?_; conv => whnf
    repeat' first | ((with_reducible apply WB.tt); conv => whnf) | ((with_reducible apply WB.ff); conv => whnf) | (refine Rn.seq ?_; conv => whnf) | (refine Rn.reg ?_; conv => whnf) | (refine Rn.drw ?_; conv => whnf) | (refine Rn.blk ?_; conv => whnf) | (refine Rn.skip ?_; conv => whnf) | (refine Rn.ret ?_; conv => whnf) | (refine Rn.exit ?_; conv => whnf) | (refine Rn.cond rfl ?_; conv => whnf) | (refine And.intro (InR.i64 (by omega) (by omega)) ?_; conv => whnf) | (refine And.intro (show _ ≠ (0 : Int) by omega) ?_; conv => whnf) | (refine WIx.intsN (by omega) ?_; conv => whnf) | (refine WIx.rowsN (by omega) ?_; conv => whnf)
    refine WB.dec (fun h => ?_) (fun h => ?_) <;> conv => whnf
    · have hx : A.getD j 0 &&& m = m := by omega
      repeat' first | ((with_reducible apply WB.tt); conv => whnf) | ((with_reducible apply WB.ff); conv => whnf) | (refine Rn.seq ?_; conv => whnf) | (refine Rn.reg ?_; conv => whnf) | (refine Rn.drw ?_; conv => whnf) | (refine Rn.blk ?_; conv => whnf) | (refine Rn.skip ?_; conv => whnf) | (refine Rn.ret ?_; conv => whnf) | (refine Rn.exit ?_; conv => whnf) | (refine Rn.cond rfl ?_; conv => whnf) | (refine And.intro (InR.i64 (by omega) (by omega)) ?_; conv => whnf) | (refine And.intro (show _ ≠ (0 : Int) by omega) ?_; conv => whnf) | (refine WIx.intsN (by omega) ?_; conv => whnf) | (refine WIx.rowsN (by omega) ?_; conv => whnf)
      refine Fin.b rfl ?_
      unfold canB
      exact (List.any_eq_true.2 ⟨j, List.mem_range.2 hlt, decide_eq_true hx⟩).symm
    · have hx : ¬ A.getD j 0 &&& m = m := by omega
      repeat' first | ((with_reducible apply WB.tt); conv => whnf) | ((with_reducible apply WB.ff); conv => whnf) | (refine Rn.seq ?_; conv => whnf) | (refine Rn.reg ?_; conv => whnf) | (refine Rn.drw ?_; conv => whnf) | (refine Rn.blk ?_; conv => whnf) | (refine Rn.skip ?_; conv => whnf) | (refine Rn.ret ?_; conv => whnf) | (refine Rn.exit ?_; conv => whnf) | (refine Rn.cond rfl ?_; conv => whnf) | (refine And.intro (InR.i64 (by omega) (by omega)) ?_; conv => whnf) | (refine And.intro (show _ ≠ (0 : Int) by omega) ?_; conv => whnf) | (refine WIx.intsN (by omega) ?_; conv => whnf) | (refine WIx.rowsN (by omega) ?_; conv => whnf)
      refine Again.to (j + 1) (by omega) ⟨by omega, fun i hi => ?_⟩ (Nat.le_refl _) ?_
      · by_cases e : i = j
        · subst e; exact decide_eq_false hx
        · exact ha i (by omega)
      (refine Shr.of ?_ ?_ rfl rfl) <;> (repeat' first | exact Rel.e | refine Rel.some ?_ ?_ ?_ | refine Rel.none ?_ ?_) <;> (try first | (show Fz _ _ _ _; first | exact Fz.pu trivial | (refine Fz.i ?_; first | rfl | omega) | (refine Fz.kpt ?_; (focus (show Pos.nat _ < Pos.nat _; simp [Pos.nat]; done))) | (refine Fz.ksl ?_; (focus (show Pos.nat _ < Pos.nat _; simp [Pos.nat]; done))) | (refine Fz.kmp ?_; (focus (show Pos.nat _ < Pos.nat _; simp [Pos.nat]; done))) | (refine Fz.pu ?_; simp [Cell.d, Pu, PuL, PuE, pu_ints, pu_rg, pu_mk, pu_seas, pu_tR]; done) | (refine Fz.pu ?_; simp only [Cell.d]; assumption)) | (refine RO'.of ?_ (ShC.same ?_); (focus (show Pos.nat _ < Pos.nat _; simp [Pos.nat]; done)); (repeat' first | exact ShC.nl | refine ShC.cn ?_ ?_) <;> first | exact Fz.pu trivial | (refine Fz.i ?_; first | rfl | omega) | (refine Fz.kpt ?_; (focus (show Pos.nat _ < Pos.nat _; simp [Pos.nat]; done))) | (refine Fz.ksl ?_; (focus (show Pos.nat _ < Pos.nat _; simp [Pos.nat]; done))) | (refine Fz.kmp ?_; (focus (show Pos.nat _ < Pos.nat _; simp [Pos.nat]; done))) | (refine Fz.pu ?_; simp [Cell.d, Pu, PuL, PuE, pu_ints, pu_rg, pu_mk, pu_seas, pu_tR]; done) | (refine Fz.pu ?_; simp only [Cell.d]; assumption)))
      all_goals first | (refine Fz.i ?_; omega) | (refine Fz.pu ?_; simp [Pu, pu_ints])
  · repeat' first | ((with_reducible apply WB.tt); conv => whnf) | ((with_reducible apply WB.ff); conv => whnf) | (refine Rn.seq ?_; conv => whnf) | (refine Rn.reg ?_; conv => whnf) | (refine Rn.drw ?_; conv => whnf) | (refine Rn.blk ?_; conv => whnf) | (refine Rn.skip ?_; conv => whnf) | (refine Rn.ret ?_; conv => whnf) | (refine Rn.exit ?_; conv => whnf) | (refine Rn.cond rfl ?_; conv => whnf) | (refine And.intro (InR.i64 (by omega) (by omega)) ?_; conv => whnf) | (refine And.intro (show _ ≠ (0 : Int) by omega) ?_; conv => whnf) | (refine WIx.intsN (by omega) ?_; conv => whnf) | (refine WIx.rowsN (by omega) ?_; conv => whnf)
    refine Fin.b rfl ?_
    unfold canB
    symm
    rw [Bool.eq_false_iff]
    intro hx
    obtain ⟨i, hi, hp⟩ := List.any_eq_true.1 hx
    rw [ha i (by have := List.mem_range.1 hi; omega)] at hp
    cases hp
end Go.Ev

namespace Go.Ev
open Go.Proofs
set_option maxRecDepth 100000
def firN (A : List Nat) (k : Nat) : Int :=
  match (List.range k).find? fun n : Nat => !canB A (2 ^ (n + 1) - 1) with
  | some n => (n : Int)
  | none => -1
theorem c_FirstRef (last : Int) (hs : List Rg) (step : Int) (lv : List Int) (ms : List Mk) (A : List Nat) (hm : ms.length ≤ 5) (hl : A.length ≤ 3000) (hA : ∀ b ∈ A, b < 1024) : PureF Try.prog p49.ix [.ag [.i .i64 last, .lst 2 (rows rgD hs), .i .i64 step, .lst 1 (ints lv), .lst 4 (rows mkD ms)], .lst 1 (ints (natI A))] (.i .i64 (firN A ms.length)) := by
  have e3 := rows_length mkD ms
  refine PureF.run fn48 (by simp) (by simp [PuL, PuE, Pu, pu_ints, pu_rg, pu_mk]) ?_; conv => whnf
  repeat' first | ((with_reducible apply WB.tt); conv => whnf) | ((with_reducible apply WB.ff); conv => whnf) | (refine Rn.seq ?_; conv => whnf) | (refine Rn.reg ?_; conv => whnf) | (refine Rn.drw ?_; conv => whnf) | (refine Rn.blk ?_; conv => whnf) | (refine Rn.skip ?_; conv => whnf) | (refine Rn.ret ?_; conv => whnf) | (refine Rn.exit ?_; conv => whnf) | (refine Rn.cond rfl ?_; conv => whnf) | (refine And.intro (InR.i64 (by omega) (by omega)) ?_; conv => whnf) | (refine And.intro (show _ ≠ (0 : Int) by omega) ?_; conv => whnf) | (refine WIx.intsN (by omega) ?_; conv => whnf) | (refine WIx.rowsN (by omega) ?_; conv => whnf)
  refine Rn.loop (fun j : Nat => ⟨(.n (.n .e (some (.lst 1 (ints (natI A)))) (.n .e (some (.i .i64 (j : Int))) .e)) none (.n .e (some (.pt .h 0 0)) .e)), (.n .e (some (tabC last hs step lv ms)) .e), .o .h, none⟩) (fun j => j ≤ ms.length ∧ ∀ i, i < j → canB A (2 ^ (i + 1) - 1) = true) (fun j => ms.length - j) 0 ?_ ?_ ?_
  · refine X.le.mk ?_ ?_ (Nat.le_refl _) rfl rfl
    · show T.le ((.n (.n .e (some (.lst 1 (ints (natI A)))) (.n .e (some (.i .i64 0)) .e)) none (.n .e (some (.pt .h 0 0)) .e)) : T D) _
      (repeat' first | exact T.le_e _ | refine T.le_some ?_ rfl ?_ | refine T.le_none ?_ ?_)
    · show T.le ((.n .e (some (tabC last hs step lv ms)) .e) : T C) _
      (repeat' first | exact T.le_e _ | refine T.le_some ?_ rfl ?_ | refine T.le_none ?_ ?_ | refine T.le_ee ?_ ?_)
  · exact ⟨Nat.zero_le _, fun i h => by omega⟩
  rintro j ⟨hj, ha⟩
  conv => whnf
  repeat' first | ((with_reducible apply WB.tt); conv => whnf) | ((with_reducible apply WB.ff); conv => whnf) | (refine Rn.seq ?_; conv => whnf) | (refine Rn.reg ?_; conv => whnf) | (refine Rn.drw ?_; conv => whnf) | (refine Rn.blk ?_; conv => whnf) | (refine Rn.skip ?_; conv => whnf) | (refine Rn.ret ?_; conv => whnf) | (refine Rn.exit ?_; conv => whnf) | (refine Rn.cond rfl ?_; conv => whnf) | (refine And.intro (InR.i64 (by omega) (by omega)) ?_; conv => whnf) | (refine And.intro (show _ ≠ (0 : Int) by omega) ?_; conv => whnf) | (refine WIx.intsN (by omega) ?_; conv => whnf) | (refine WIx.rowsN (by omega) ?_; conv => whnf)
  refine WB.dec (fun h => ?_) (fun h => ?_) <;> conv => whnf
  · have hlt : j < ms.length := by omega
    have hp := Nat.one_le_two_pow (n := j + 1)
    have hp2 : 2 ^ (j + 1) ≤ 2 ^ 9 := Nat.pow_le_pow_right (by omega) (by omega)
    have hd : 2 * 2 ^ j = 2 ^ (j + 1) := by rw [Nat.pow_succ]; omega
    have cC := c_Can A (2 ^ (j + 1) - 1) hl hA (by omega)
    have hb : ((2 ^ (j + 1) - 1 : Nat) : Int) = ((2 * 2 ^ j : Nat) : Int) - 1 := by omega
    rw [hb] at cC
    repeat' first | ((with_reducible apply WB.tt); conv => whnf) | ((with_reducible apply WB.ff); conv => whnf) | (refine Rn.seq ?_; conv => whnf) | (refine Rn.reg ?_; conv => whnf) | (refine Rn.drw ?_; conv => whnf) | (refine Rn.blk ?_; conv => whnf) | (refine Rn.skip ?_; conv => whnf) | (refine Rn.ret ?_; conv => whnf) | (refine Rn.exit ?_; conv => whnf) | (refine Rn.cond rfl ?_; conv => whnf) | (refine And.intro (InR.i64 (by omega) (by omega)) ?_; conv => whnf) | (refine And.intro (show _ ≠ (0 : Int) by omega) ?_; conv => whnf) | (refine WIx.intsN (by omega) ?_; conv => whnf) | (refine WIx.rowsN (by omega) ?_; conv => whnf)
    refine And.intro (InR.u64 (by omega) (by omega)) ?_; conv => whnf
    repeat' first | ((with_reducible apply WB.tt); conv => whnf) | ((with_reducible apply WB.ff); conv => whnf) | (refine Rn.seq ?_; conv => whnf) | (refine Rn.reg ?_; conv => whnf) | (refine Rn.drw ?_; conv => whnf) | (refine Rn.blk ?_; conv => whnf) | (refine Rn.skip ?_; conv => whnf) | (refine Rn.ret ?_; conv => whnf) | (refine Rn.exit ?_; conv => whnf) | (refine Rn.cond rfl ?_; conv => whnf) | (refine And.intro (InR.i64 (by omega) (by omega)) ?_; conv => whnf) | (refine And.intro (show _ ≠ (0 : Int) by omega) ?_; conv => whnf) | (refine WIx.intsN (by omega) ?_; conv => whnf) | (refine WIx.rowsN (by omega) ?_; conv => whnf)
    refine WSt.shlN (a := 2) (by rfl) (by rfl) (by omega) (by omega) ?_; conv => whnf
    repeat' first | ((with_reducible apply WB.tt); conv => whnf) | ((with_reducible apply WB.ff); conv => whnf) | (refine Rn.seq ?_; conv => whnf) | (refine Rn.reg ?_; conv => whnf) | (refine Rn.drw ?_; conv => whnf) | (refine Rn.blk ?_; conv => whnf) | (refine Rn.skip ?_; conv => whnf) | (refine Rn.ret ?_; conv => whnf) | (refine Rn.exit ?_; conv => whnf) | (refine Rn.cond rfl ?_; conv => whnf) | (refine And.intro (InR.i64 (by omega) (by omega)) ?_; conv => whnf) | (refine And.intro (show _ ≠ (0 : Int) by omega) ?_; conv => whnf) | (refine WIx.intsN (by omega) ?_; conv => whnf) | (refine WIx.rowsN (by omega) ?_; conv => whnf) | (refine WCall.pure (cC) ?_; conv => whnf)
    cases hc : canB A (2 ^ (j + 1) - 1) with
    | false =>
      refine WB.tt ?_; conv => whnf
      repeat' first | ((with_reducible apply WB.tt); conv => whnf) | ((with_reducible apply WB.ff); conv => whnf) | (refine Rn.seq ?_; conv => whnf) | (refine Rn.reg ?_; conv => whnf) | (refine Rn.drw ?_; conv => whnf) | (refine Rn.blk ?_; conv => whnf) | (refine Rn.skip ?_; conv => whnf) | (refine Rn.ret ?_; conv => whnf) | (refine Rn.exit ?_; conv => whnf) | (refine Rn.cond rfl ?_; conv => whnf) | (refine And.intro (InR.i64 (by omega) (by omega)) ?_; conv => whnf) | (refine And.intro (show _ ≠ (0 : Int) by omega) ?_; conv => whnf) | (refine WIx.intsN (by omega) ?_; conv => whnf) | (refine WIx.rowsN (by omega) ?_; conv => whnf)
      refine Fin.i rfl ?_
      unfold firN
      rw [List.find?_range_eq_some.2 ⟨by rw [hc]; rfl, List.mem_range.2 hlt, fun i hi => by rw [ha i hi]; rfl⟩]
    | true =>
      refine WB.ff ?_; conv => whnf
      repeat' first | ((with_reducible apply WB.tt); conv => whnf) | ((with_reducible apply WB.ff); conv => whnf) | (refine Rn.seq ?_; conv => whnf) | (refine Rn.reg ?_; conv => whnf) | (refine Rn.drw ?_; conv => whnf) | (refine Rn.blk ?_; conv => whnf) | (refine Rn.skip ?_; conv => whnf) | (refine Rn.ret ?_; conv => whnf) | (refine Rn.exit ?_; conv => whnf) | (refine Rn.cond rfl ?_; conv => whnf) | (refine And.intro (InR.i64 (by omega) (by omega)) ?_; conv => whnf) | (refine And.intro (show _ ≠ (0 : Int) by omega) ?_; conv => whnf) | (refine WIx.intsN (by omega) ?_; conv => whnf) | (refine WIx.rowsN (by omega) ?_; conv => whnf)
      refine Again.to (j + 1) (by omega) ⟨by omega, fun i hi => ?_⟩ (Nat.le_refl _) ?_
      · by_cases e : i = j
        · subst e; exact hc
        · exact ha i (by omega)
      refine Shr.of ?_ ?_ rfl rfl
      · show Rel _ _ ((.n (.n .e (some (.lst 1 (ints (natI A)))) (.n .e (some (.i .i64 ((j + 1 : Nat) : Int))) .e)) none (.n .e (some (.pt .h 0 0)) .e)) : T D) _
        (repeat' first | exact Rel.e | refine Rel.some ?_ ?_ ?_ | refine Rel.none ?_ ?_ | refine Rel.ee ?_ ?_)
        all_goals show Fz _ _ _ _
        all_goals first | exact .pu trivial | exact .pu (pu_ints _) | exact .kpt (show _ < 2 by simp [Pos.nat])
      · show Rel _ _ ((.n .e (some (tabC last hs step lv ms)) .e) : T C) _
        (repeat' first | exact Rel.e | refine Rel.some ?_ ?_ ?_ | refine Rel.none ?_ ?_ | refine Rel.ee ?_ ?_)
        exact RO'.of (show _ < 2 by simp [Pos.nat]) (tabC_sh last hs step lv ms)
  · repeat' first | ((with_reducible apply WB.tt); conv => whnf) | ((with_reducible apply WB.ff); conv => whnf) | (refine Rn.seq ?_; conv => whnf) | (refine Rn.reg ?_; conv => whnf) | (refine Rn.drw ?_; conv => whnf) | (refine Rn.blk ?_; conv => whnf) | (refine Rn.skip ?_; conv => whnf) | (refine Rn.ret ?_; conv => whnf) | (refine Rn.exit ?_; conv => whnf) | (refine Rn.cond rfl ?_; conv => whnf) | (refine And.intro (InR.i64 (by omega) (by omega)) ?_; conv => whnf) | (refine And.intro (show _ ≠ (0 : Int) by omega) ?_; conv => whnf) | (refine WIx.intsN (by omega) ?_; conv => whnf) | (refine WIx.rowsN (by omega) ?_; conv => whnf)
    refine Fin.i rfl ?_
    unfold firN
    rw [List.find?_range_eq_none.2 fun i hi => by rw [ha i (by omega)]; rfl]
def markN (ms : List Mk) (t : List Int) (n : Nat) : Nat := bitsN (fun k => rightR t (ms.getD k default)) n
def allR (hs : List Rg) (step : Int) (ms : List Mk) : List Nat := (listsR hs step).map fun t => markN ms t ms.length
def alS (last : Int) (hs : List Rg) (step : Int) (lv : List Int) (ms : List Mk) (L : List (List Int)) (A : List Int) : Nat → X
  | 0 => ⟨(.n (.n (.n .e (some (.ns)) .e) (some (.pt .h 0 0)) (.n .e (some (.i .i64 0)) .e)) none (.n (.n .e (some (.lst 1 (rows tD L))) .e) none .e)), (.n .e (some (tabC last hs step lv ms)) .e), .o .h, none⟩
  | j + 1 => ⟨(.n (.n (.n .e (some (.sl (.i .h) 0 (j + 1) j 1)) .e) (some (.pt .h 0 0)) (.n .e (some (.i .i64 ((j + 1 : Nat) : Int))) .e)) none (.n (.n .e (some (.lst 1 (rows tD L))) .e) none .e)), (.n .e (some (tabC last hs step lv ms)) (.n .e (some (.cells false ((nD (A.take (j + 1))).map fun d => Cell.o d j) (j + 1))) .e)), .o (.o .h), none⟩
set_option maxHeartbeats 2000000 in
theorem c_All (last : Int) (hs : List Rg) (step : Int) (lv : List Int) (ms : List Mk) (hv : Vr hs) (hl : hs.length ≤ 10) (hm : ms.length ≤ 5) (hmr : ∀ m ∈ ms, 0 ≤ m.fr ∧ m.fr ≤ m.to ∧ m.to < hs.length) (hlen : ∀ t ∈ listsR hs step, t.length = hs.length) : PureF Try.prog p47.ix [.ag [.i .i64 last, .lst 2 (rows rgD hs), .i .i64 step, .lst 1 (ints lv), .lst 4 (rows mkD ms)]] (.lst 1 (ints (natI (allR hs step ms)))) := by
  have e3 := rows_length mkD ms
  have e1 := rows_length tD (listsR hs step)
  have hL3 := lists_len hv step
  have iL := c_Lists last hs step lv ms hv (by omega)
  have hAl : (natI (allR hs step ms)).length = (listsR hs step).length := by rw [natI_length]; exact List.length_map _
  have hAt : ∀ j, j < (listsR hs step).length → (natI (allR hs step ms)).getD j 0 = ((markN ms ((listsR hs step).getD j default) ms.length : Nat) : Int) := fun j h => by
    rw [natI_at]
    congr 1
    simp [allR, List.getD, h]
  generalize natI (allR hs step ms) = A at *
  generalize listsR hs step = L at *
  refine PureF.run fn46 (by simp) (by simp [PuL, PuE, Pu, pu_ints, pu_rg, pu_mk]) ?_; conv => whnf
  repeat' first | ((with_reducible apply WB.tt); conv => whnf) | ((with_reducible apply WB.ff); conv => whnf) | (refine Rn.seq ?_; conv => whnf) | (refine Rn.reg ?_; conv => whnf) | (refine Rn.drw ?_; conv => whnf) | (refine Rn.blk ?_; conv => whnf) | (refine Rn.skip ?_; conv => whnf) | (refine Rn.ret ?_; conv => whnf) | (refine Rn.exit ?_; conv => whnf) | (refine Rn.cond rfl ?_; conv => whnf) | (refine And.intro (InR.i64 (by omega) (by omega)) ?_; conv => whnf) | (refine And.intro (show _ ≠ (0 : Int) by omega) ?_; conv => whnf) | (refine WIx.intsN (by omega) ?_; conv => whnf) | (refine WIx.rowsN (by omega) ?_; conv => whnf) | (refine WCall.pure (iL) ?_; conv => whnf)
  refine Rn.loop (alS last hs step lv ms L A) (fun j => j ≤ L.length) (fun j => L.length - j) 0 ?_ ?_ ?_
  · refine X.le.mk ?_ ?_ (Nat.le_refl _) rfl rfl
    · show T.le ((.n (.n (.n .e (some (.ns)) .e) (some (.pt .h 0 0)) (.n .e (some (.i .i64 0)) .e)) none (.n (.n .e (some (.lst 1 (rows tD L))) .e) none .e)) : T D) _
      (repeat' first | exact T.le_e _ | refine T.le_some ?_ rfl ?_ | refine T.le_none ?_ ?_)
    · show T.le ((.n .e (some (tabC last hs step lv ms)) .e) : T C) _
      (repeat' first | exact T.le_e _ | refine T.le_some ?_ rfl ?_ | refine T.le_none ?_ ?_ | refine T.le_ee ?_ ?_)
  · exact Nat.zero_le _
  rintro (_ | j) hj
  · conv => whnf
    repeat' first | ((with_reducible apply WB.tt); conv => whnf) | ((with_reducible apply WB.ff); conv => whnf) | (refine Rn.seq ?_; conv => whnf) | (refine Rn.reg ?_; conv => whnf) | (refine Rn.drw ?_; conv => whnf) | (refine Rn.blk ?_; conv => whnf) | (refine Rn.skip ?_; conv => whnf) | (refine Rn.ret ?_; conv => whnf) | (refine Rn.exit ?_; conv => whnf) | (refine Rn.cond rfl ?_; conv => whnf) | (refine And.intro (InR.i64 (by omega) (by omega)) ?_; conv => whnf) | (refine And.intro (show _ ≠ (0 : Int) by omega) ?_; conv => whnf) | (refine WIx.intsN (by omega) ?_; conv => whnf) | (refine WIx.rowsN (by omega) ?_; conv => whnf)
    refine WB.dec (fun h => ?_) (fun h => ?_) <;> conv => whnf
    · repeat' first | ((with_reducible apply WB.tt); conv => whnf) | ((with_reducible apply WB.ff); conv => whnf) | (refine Rn.seq ?_; conv => whnf) | (refine Rn.reg ?_; conv => whnf) | (refine Rn.drw ?_; conv => whnf) | (refine Rn.blk ?_; conv => whnf) | (refine Rn.skip ?_; conv => whnf) | (refine Rn.ret ?_; conv => whnf) | (refine Rn.exit ?_; conv => whnf) | (refine Rn.cond rfl ?_; conv => whnf) | (refine And.intro (InR.i64 (by omega) (by omega)) ?_; conv => whnf) | (refine And.intro (show _ ≠ (0 : Int) by omega) ?_; conv => whnf) | (refine WIx.intsN (by omega) ?_; conv => whnf) | (refine WIx.rowsN (by omega) ?_; conv => whnf)
      have hlt : 0 < L.length := by omega
      have htl := hlen _ (getD_mem (d := default) hlt)
      refine Rn.loop (fun q : Nat => ⟨(.n (.n (.n (.n .e (some (.i .i64 ((q : Nat) : Int))) .e) (some (.ns)) .e) (some (.pt .h 0 0)) (.n .e (some (.i .i64 (0))) .e)) none (.n (.n .e (some (.lst 1 (rows tD L))) .e) none (.n .e (some (.i .i64 ((markN ms (L.getD 0 default) q : Nat) : Int))) .e))), (.n .e (some (tabC last hs step lv ms)) .e), .o .h, none⟩) (fun q => q ≤ ms.length) (fun q => ms.length - q) 0 ?_ ?_ ?_
      · refine X.le.mk ?_ ?_ (Nat.le_refl _) rfl rfl
        · show T.le ((.n (.n (.n (.n .e (some (.i .i64 0)) .e) (some (.ns)) .e) (some (.pt .h 0 0)) (.n .e (some (.i .i64 (0))) .e)) none (.n (.n .e (some (.lst 1 (rows tD L))) .e) none (.n .e (some (.i .i64 0)) .e))) : T D) _
          (repeat' first | exact T.le_e _ | refine T.le_some ?_ rfl ?_ | refine T.le_none ?_ ?_)
        · show T.le ((.n .e (some (tabC last hs step lv ms)) .e) : T C) _
          (repeat' first | exact T.le_e _ | refine T.le_some ?_ rfl ?_ | refine T.le_none ?_ ?_ | refine T.le_ee ?_ ?_)
      · exact Nat.zero_le _
      intro q hq
      have hq : q ≤ ms.length := hq
      have hsc := bitsN_succ (fun k => rightR (L.getD 0 default) (ms.getD k default)) q
      have hlt2 := bitsN_lt (fun k => rightR (L.getD 0 default) (ms.getD k default)) q
      have hp := Nat.one_le_two_pow (n := q)
      have hp2 : 2 ^ q ≤ 2 ^ 5 := Nat.pow_le_pow_right (by omega) (by omega)
      have hmk : ∀ k, bitsN (fun k => rightR (L.getD 0 default) (ms.getD k default)) k = markN ms (L.getD 0 default) k := fun _ => rfl
      rw [hmk, hmk] at hsc
      rw [hmk] at hlt2
      have hfull : q = ms.length → ((markN ms (L.getD 0 default) q : Nat) : Int) = A.getD 0 0 := fun e => by rw [e]; exact (hAt 0 hlt).symm
      generalize markN ms (L.getD 0 default) q = b at *
      conv => whnf
      repeat' first | ((with_reducible apply WB.tt); conv => whnf) | ((with_reducible apply WB.ff); conv => whnf) | (refine Rn.seq ?_; conv => whnf) | (refine Rn.reg ?_; conv => whnf) | (refine Rn.drw ?_; conv => whnf) | (refine Rn.blk ?_; conv => whnf) | (refine Rn.skip ?_; conv => whnf) | (refine Rn.ret ?_; conv => whnf) | (refine Rn.exit ?_; conv => whnf) | (refine Rn.cond rfl ?_; conv => whnf) | (refine And.intro (InR.i64 (by omega) (by omega)) ?_; conv => whnf) | (refine And.intro (show _ ≠ (0 : Int) by omega) ?_; conv => whnf) | (refine WIx.intsN (by omega) ?_; conv => whnf) | (refine WIx.rowsN (by omega) ?_; conv => whnf)
      refine WB.dec (fun h => ?_) (fun h => ?_) <;> conv => whnf
      · have hql : q < ms.length := by omega
        have hmq := hmr _ (getD_mem (d := default) hql)
        have cR := c_Right (L.getD 0 default) (ms.getD q default) hmq.1 (by omega) (by omega) (by omega)
        repeat' first | ((with_reducible apply WB.tt); conv => whnf) | ((with_reducible apply WB.ff); conv => whnf) | (refine Rn.seq ?_; conv => whnf) | (refine Rn.reg ?_; conv => whnf) | (refine Rn.drw ?_; conv => whnf) | (refine Rn.blk ?_; conv => whnf) | (refine Rn.skip ?_; conv => whnf) | (refine Rn.ret ?_; conv => whnf) | (refine Rn.exit ?_; conv => whnf) | (refine Rn.cond rfl ?_; conv => whnf) | (refine And.intro (InR.i64 (by omega) (by omega)) ?_; conv => whnf) | (refine And.intro (show _ ≠ (0 : Int) by omega) ?_; conv => whnf) | (refine WIx.intsN (by omega) ?_; conv => whnf) | (refine WIx.rowsN (by omega) ?_; conv => whnf) | (refine WCall.pure (cR) ?_; conv => whnf)
        refine WB.mk (fun hc => ?_) (fun hc => ?_) <;> conv => whnf
        · rw [if_pos hc] at hsc
          repeat' first | ((with_reducible apply WB.tt); conv => whnf) | ((with_reducible apply WB.ff); conv => whnf) | (refine Rn.seq ?_; conv => whnf) | (refine Rn.reg ?_; conv => whnf) | (refine Rn.drw ?_; conv => whnf) | (refine Rn.blk ?_; conv => whnf) | (refine Rn.skip ?_; conv => whnf) | (refine Rn.ret ?_; conv => whnf) | (refine Rn.exit ?_; conv => whnf) | (refine Rn.cond rfl ?_; conv => whnf) | (refine And.intro (InR.i64 (by omega) (by omega)) ?_; conv => whnf) | (refine And.intro (show _ ≠ (0 : Int) by omega) ?_; conv => whnf) | (refine WIx.intsN (by omega) ?_; conv => whnf) | (refine WIx.rowsN (by omega) ?_; conv => whnf)
          refine And.intro (InR.u64 (by omega) (by omega)) ?_; conv => whnf
          repeat' first | ((with_reducible apply WB.tt); conv => whnf) | ((with_reducible apply WB.ff); conv => whnf) | (refine Rn.seq ?_; conv => whnf) | (refine Rn.reg ?_; conv => whnf) | (refine Rn.drw ?_; conv => whnf) | (refine Rn.blk ?_; conv => whnf) | (refine Rn.skip ?_; conv => whnf) | (refine Rn.ret ?_; conv => whnf) | (refine Rn.exit ?_; conv => whnf) | (refine Rn.cond rfl ?_; conv => whnf) | (refine And.intro (InR.i64 (by omega) (by omega)) ?_; conv => whnf) | (refine And.intro (show _ ≠ (0 : Int) by omega) ?_; conv => whnf) | (refine WIx.intsN (by omega) ?_; conv => whnf) | (refine WIx.rowsN (by omega) ?_; conv => whnf)
          refine WSt.shlN (a := 1) (by rfl) (by rfl) (by rw [Nat.one_mul]; omega) (by omega) ?_; conv => whnf
          repeat' first | ((with_reducible apply WB.tt); conv => whnf) | ((with_reducible apply WB.ff); conv => whnf) | (refine Rn.seq ?_; conv => whnf) | (refine Rn.reg ?_; conv => whnf) | (refine Rn.drw ?_; conv => whnf) | (refine Rn.blk ?_; conv => whnf) | (refine Rn.skip ?_; conv => whnf) | (refine Rn.ret ?_; conv => whnf) | (refine Rn.exit ?_; conv => whnf) | (refine Rn.cond rfl ?_; conv => whnf) | (refine And.intro (InR.i64 (by omega) (by omega)) ?_; conv => whnf) | (refine And.intro (show _ ≠ (0 : Int) by omega) ?_; conv => whnf) | (refine WIx.intsN (by omega) ?_; conv => whnf) | (refine WIx.rowsN (by omega) ?_; conv => whnf)
          refine WSt.orB (by rfl) (by rfl) (by omega) (by rw [Nat.one_mul]; omega) ?_; conv => whnf
          repeat' first | ((with_reducible apply WB.tt); conv => whnf) | ((with_reducible apply WB.ff); conv => whnf) | (refine Rn.seq ?_; conv => whnf) | (refine Rn.reg ?_; conv => whnf) | (refine Rn.drw ?_; conv => whnf) | (refine Rn.blk ?_; conv => whnf) | (refine Rn.skip ?_; conv => whnf) | (refine Rn.ret ?_; conv => whnf) | (refine Rn.exit ?_; conv => whnf) | (refine Rn.cond rfl ?_; conv => whnf) | (refine And.intro (InR.i64 (by omega) (by omega)) ?_; conv => whnf) | (refine And.intro (show _ ≠ (0 : Int) by omega) ?_; conv => whnf) | (refine WIx.intsN (by omega) ?_; conv => whnf) | (refine WIx.rowsN (by omega) ?_; conv => whnf)
          refine Again.to (q + 1) (by omega) (by omega) (Nat.le_refl _) ?_
          refine Shr.of ?_ ?_ rfl rfl
          · show Rel _ _ ((.n (.n (.n (.n .e (some (.i .i64 ((q + 1 : Nat) : Int))) .e) (some (.ns)) .e) (some (.pt .h 0 0)) (.n .e (some (.i .i64 (0))) .e)) none (.n (.n .e (some (.lst 1 (rows tD L))) .e) none (.n .e (some (.i .i64 ((markN ms (L.getD 0 default) (q + 1) : Nat) : Int))) .e))) : T D) _
            rw [hsc]
            (repeat' first | exact Rel.e | refine Rel.some ?_ ?_ ?_ | refine Rel.none ?_ ?_ | refine Rel.ee ?_ ?_)
            all_goals show Fz _ _ _ _
            all_goals first | exact .pu trivial | exact .pu (pu_tR _) | exact .kpt (show _ < 2 by simp [Pos.nat]) | exact .ksl (show _ < 2 by simp [Pos.nat])
          · show Rel _ _ ((.n .e (some (tabC last hs step lv ms)) .e) : T C) _
            (repeat' first | exact Rel.e | refine Rel.some ?_ ?_ ?_ | refine Rel.none ?_ ?_ | refine Rel.ee ?_ ?_)
            all_goals first
              | exact RO'.of (show _ < 2 by simp [Pos.nat]) (tabC_sh last hs step lv ms)
              | exact RO'.of (show _ < 2 by simp [Pos.nat]) (ShC.same fun c hc => by
                  obtain ⟨d, hd, rfl⟩ := List.mem_map.1 hc
                  exact .pu (PuL_iff.1 (pu_nD _) d hd))
        · rw [if_neg (by rw [hc]; decide)] at hsc
          repeat' first | ((with_reducible apply WB.tt); conv => whnf) | ((with_reducible apply WB.ff); conv => whnf) | (refine Rn.seq ?_; conv => whnf) | (refine Rn.reg ?_; conv => whnf) | (refine Rn.drw ?_; conv => whnf) | (refine Rn.blk ?_; conv => whnf) | (refine Rn.skip ?_; conv => whnf) | (refine Rn.ret ?_; conv => whnf) | (refine Rn.exit ?_; conv => whnf) | (refine Rn.cond rfl ?_; conv => whnf) | (refine And.intro (InR.i64 (by omega) (by omega)) ?_; conv => whnf) | (refine And.intro (show _ ≠ (0 : Int) by omega) ?_; conv => whnf) | (refine WIx.intsN (by omega) ?_; conv => whnf) | (refine WIx.rowsN (by omega) ?_; conv => whnf)
          refine Again.to (q + 1) (by omega) (by omega) (Nat.le_refl _) ?_
          refine Shr.of ?_ ?_ rfl rfl
          · show Rel _ _ ((.n (.n (.n (.n .e (some (.i .i64 ((q + 1 : Nat) : Int))) .e) (some (.ns)) .e) (some (.pt .h 0 0)) (.n .e (some (.i .i64 (0))) .e)) none (.n (.n .e (some (.lst 1 (rows tD L))) .e) none (.n .e (some (.i .i64 ((markN ms (L.getD 0 default) (q + 1) : Nat) : Int))) .e))) : T D) _
            rw [hsc]
            (repeat' first | exact Rel.e | refine Rel.some ?_ ?_ ?_ | refine Rel.none ?_ ?_ | refine Rel.ee ?_ ?_)
            all_goals show Fz _ _ _ _
            all_goals first | exact .pu trivial | exact .pu (pu_tR _) | exact .kpt (show _ < 2 by simp [Pos.nat]) | exact .ksl (show _ < 2 by simp [Pos.nat])
          · show Rel _ _ ((.n .e (some (tabC last hs step lv ms)) .e) : T C) _
            (repeat' first | exact Rel.e | refine Rel.some ?_ ?_ ?_ | refine Rel.none ?_ ?_ | refine Rel.ee ?_ ?_)
            all_goals first
              | exact RO'.of (show _ < 2 by simp [Pos.nat]) (tabC_sh last hs step lv ms)
              | exact RO'.of (show _ < 2 by simp [Pos.nat]) (ShC.same fun c hc => by
                  obtain ⟨d, hd, rfl⟩ := List.mem_map.1 hc
                  exact .pu (PuL_iff.1 (pu_nD _) d hd))
      · have hf := hfull (by omega)
        rw [hf]
        repeat' first | ((with_reducible apply WB.tt); conv => whnf) | ((with_reducible apply WB.ff); conv => whnf) | (refine Rn.seq ?_; conv => whnf) | (refine Rn.reg ?_; conv => whnf) | (refine Rn.drw ?_; conv => whnf) | (refine Rn.blk ?_; conv => whnf) | (refine Rn.skip ?_; conv => whnf) | (refine Rn.ret ?_; conv => whnf) | (refine Rn.exit ?_; conv => whnf) | (refine Rn.cond rfl ?_; conv => whnf) | (refine And.intro (InR.i64 (by omega) (by omega)) ?_; conv => whnf) | (refine And.intro (show _ ≠ (0 : Int) by omega) ?_; conv => whnf) | (refine WIx.intsN (by omega) ?_; conv => whnf) | (refine WIx.rowsN (by omega) ?_; conv => whnf)
        refine WSt.app_first (r := [_]) rfl (.inl rfl) rfl rfl rfl rfl ?_; conv => whnf
        repeat' first | ((with_reducible apply WB.tt); conv => whnf) | ((with_reducible apply WB.ff); conv => whnf) | (refine Rn.seq ?_; conv => whnf) | (refine Rn.reg ?_; conv => whnf) | (refine Rn.drw ?_; conv => whnf) | (refine Rn.blk ?_; conv => whnf) | (refine Rn.skip ?_; conv => whnf) | (refine Rn.ret ?_; conv => whnf) | (refine Rn.exit ?_; conv => whnf) | (refine Rn.cond rfl ?_; conv => whnf) | (refine And.intro (InR.i64 (by omega) (by omega)) ?_; conv => whnf) | (refine And.intro (show _ ≠ (0 : Int) by omega) ?_; conv => whnf) | (refine WIx.intsN (by omega) ?_; conv => whnf) | (refine WIx.rowsN (by omega) ?_; conv => whnf)
        refine Again.to 1 (by omega) (by omega) (Nat.le_of_ble_eq_true rfl) ?_
        have ht : nD (A.take 1) = [.i .i64 (A.getD 0 0)] := by rw [take_succ_getD (j := 0) (d := 0) (by omega)]; simp [nD]
        refine Shr.of ?_ ?_ rfl rfl
        · show Rel _ _ ((.n (.n (.n .e (some (.sl (.i .h) 0 (0 + 1) 0 1)) .e) (some (.pt .h 0 0)) (.n .e (some (.i .i64 ((0 + 1 : Nat) : Int))) .e)) none (.n (.n .e (some (.lst 1 (rows tD L))) .e) none .e)) : T D) _
          (repeat' first | exact Rel.e | refine Rel.some ?_ ?_ ?_ | refine Rel.none ?_ ?_ | refine Rel.ee ?_ ?_)
          all_goals show Fz _ _ _ _
          all_goals first | exact .pu trivial | exact .pu (pu_tR _) | exact .kpt (show _ < 4 by simp [Pos.nat]) | exact .ksl (show _ < 4 by simp [Pos.nat])
        · show Rel _ _ ((.n .e (some (tabC last hs step lv ms)) (.n .e (some (.cells false ((nD (A.take 1)).map fun d => Cell.o d 0) 1)) .e)) : T C) _
          rw [ht]
          (repeat' first | exact Rel.e | refine Rel.some ?_ ?_ ?_ | refine Rel.none ?_ ?_ | refine Rel.ee ?_ ?_)
          all_goals first
            | exact RO'.of (show _ < 4 by simp [Pos.nat]) (tabC_sh last hs step lv ms)
            | exact RO'.of (show _ < 4 by simp [Pos.nat]) (ShC.same (ShC.cn (.pu trivial) ShC.nl))

    · repeat' first | ((with_reducible apply WB.tt); conv => whnf) | ((with_reducible apply WB.ff); conv => whnf) | (refine Rn.seq ?_; conv => whnf) | (refine Rn.reg ?_; conv => whnf) | (refine Rn.drw ?_; conv => whnf) | (refine Rn.blk ?_; conv => whnf) | (refine Rn.skip ?_; conv => whnf) | (refine Rn.ret ?_; conv => whnf) | (refine Rn.exit ?_; conv => whnf) | (refine Rn.cond rfl ?_; conv => whnf) | (refine And.intro (InR.i64 (by omega) (by omega)) ?_; conv => whnf) | (refine And.intro (show _ ≠ (0 : Int) by omega) ?_; conv => whnf) | (refine WIx.intsN (by omega) ?_; conv => whnf) | (refine WIx.rowsN (by omega) ?_; conv => whnf)
      have hA0 : A = [] := List.length_eq_zero_iff.1 (by omega)
      subst hA0
      exact Fin.t (.inr rfl) rfl .ns
  · conv => whnf
    repeat' first | ((with_reducible apply WB.tt); conv => whnf) | ((with_reducible apply WB.ff); conv => whnf) | (refine Rn.seq ?_; conv => whnf) | (refine Rn.reg ?_; conv => whnf) | (refine Rn.drw ?_; conv => whnf) | (refine Rn.blk ?_; conv => whnf) | (refine Rn.skip ?_; conv => whnf) | (refine Rn.ret ?_; conv => whnf) | (refine Rn.exit ?_; conv => whnf) | (refine Rn.cond rfl ?_; conv => whnf) | (refine And.intro (InR.i64 (by omega) (by omega)) ?_; conv => whnf) | (refine And.intro (show _ ≠ (0 : Int) by omega) ?_; conv => whnf) | (refine WIx.intsN (by omega) ?_; conv => whnf) | (refine WIx.rowsN (by omega) ?_; conv => whnf)
    refine WB.dec (fun h => ?_) (fun h => ?_) <;> conv => whnf
    · repeat' first | ((with_reducible apply WB.tt); conv => whnf) | ((with_reducible apply WB.ff); conv => whnf) | (refine Rn.seq ?_; conv => whnf) | (refine Rn.reg ?_; conv => whnf) | (refine Rn.drw ?_; conv => whnf) | (refine Rn.blk ?_; conv => whnf) | (refine Rn.skip ?_; conv => whnf) | (refine Rn.ret ?_; conv => whnf) | (refine Rn.exit ?_; conv => whnf) | (refine Rn.cond rfl ?_; conv => whnf) | (refine And.intro (InR.i64 (by omega) (by omega)) ?_; conv => whnf) | (refine And.intro (show _ ≠ (0 : Int) by omega) ?_; conv => whnf) | (refine WIx.intsN (by omega) ?_; conv => whnf) | (refine WIx.rowsN (by omega) ?_; conv => whnf)
      have hlt : (j + 1) < L.length := by omega
      have htl := hlen _ (getD_mem (d := default) hlt)
      refine Rn.loop (fun q : Nat => ⟨(.n (.n (.n (.n .e (some (.i .i64 ((q : Nat) : Int))) .e) (some (.sl (.i .h) 0 (j + 1) j 1)) .e) (some (.pt .h 0 0)) (.n .e (some (.i .i64 ((((j + 1) : Nat) : Int)))) .e)) none (.n (.n .e (some (.lst 1 (rows tD L))) .e) none (.n .e (some (.i .i64 ((markN ms (L.getD (j + 1) default) q : Nat) : Int))) .e))), (.n .e (some (tabC last hs step lv ms)) (.n .e (some (.cells false ((nD (A.take (j + 1))).map fun d => Cell.o d j) (j + 1))) .e)), .o (.o .h), none⟩) (fun q => q ≤ ms.length) (fun q => ms.length - q) 0 ?_ ?_ ?_
      · refine X.le.mk ?_ ?_ (Nat.le_refl _) rfl rfl
        · show T.le ((.n (.n (.n (.n .e (some (.i .i64 0)) .e) (some (.sl (.i .h) 0 (j + 1) j 1)) .e) (some (.pt .h 0 0)) (.n .e (some (.i .i64 ((((j + 1) : Nat) : Int)))) .e)) none (.n (.n .e (some (.lst 1 (rows tD L))) .e) none (.n .e (some (.i .i64 0)) .e))) : T D) _
          (repeat' first | exact T.le_e _ | refine T.le_some ?_ rfl ?_ | refine T.le_none ?_ ?_)
        · show T.le ((.n .e (some (tabC last hs step lv ms)) (.n .e (some (.cells false ((nD (A.take (j + 1))).map fun d => Cell.o d j) (j + 1))) .e)) : T C) _
          (repeat' first | exact T.le_e _ | refine T.le_some ?_ rfl ?_ | refine T.le_none ?_ ?_ | refine T.le_ee ?_ ?_)
      · exact Nat.zero_le _
      intro q hq
      have hq : q ≤ ms.length := hq
      have hsc := bitsN_succ (fun k => rightR (L.getD (j + 1) default) (ms.getD k default)) q
      have hlt2 := bitsN_lt (fun k => rightR (L.getD (j + 1) default) (ms.getD k default)) q
      have hp := Nat.one_le_two_pow (n := q)
      have hp2 : 2 ^ q ≤ 2 ^ 5 := Nat.pow_le_pow_right (by omega) (by omega)
      have hmk : ∀ k, bitsN (fun k => rightR (L.getD (j + 1) default) (ms.getD k default)) k = markN ms (L.getD (j + 1) default) k := fun _ => rfl
      rw [hmk, hmk] at hsc
      rw [hmk] at hlt2
      have hfull : q = ms.length → ((markN ms (L.getD (j + 1) default) q : Nat) : Int) = A.getD (j + 1) 0 := fun e => by rw [e]; exact (hAt (j + 1) hlt).symm
      generalize markN ms (L.getD (j + 1) default) q = b at *
      conv => whnf
      repeat' first | ((with_reducible apply WB.tt); conv => whnf) | ((with_reducible apply WB.ff); conv => whnf) | (refine Rn.seq ?_; conv => whnf) | (refine Rn.reg ?_; conv => whnf) | (refine Rn.drw ?_; conv => whnf) | (refine Rn.blk ?_; conv => whnf) | (refine Rn.skip ?_; conv => whnf) | (refine Rn.ret ?_; conv => whnf) | (refine Rn.exit ?_; conv => whnf) | (refine Rn.cond rfl ?_; conv => whnf) | (refine And.intro (InR.i64 (by omega) (by omega)) ?_; conv => whnf) | (refine And.intro (show _ ≠ (0 : Int) by omega) ?_; conv => whnf) | (refine WIx.intsN (by omega) ?_; conv => whnf) | (refine WIx.rowsN (by omega) ?_; conv => whnf)
      refine WB.dec (fun h => ?_) (fun h => ?_) <;> conv => whnf
      · have hql : q < ms.length := by omega
        have hmq := hmr _ (getD_mem (d := default) hql)
        have cR := c_Right (L.getD (j + 1) default) (ms.getD q default) hmq.1 (by omega) (by omega) (by omega)
        repeat' first | ((with_reducible apply WB.tt); conv => whnf) | ((with_reducible apply WB.ff); conv => whnf) | (refine Rn.seq ?_; conv => whnf) | (refine Rn.reg ?_; conv => whnf) | (refine Rn.drw ?_; conv => whnf) | (refine Rn.blk ?_; conv => whnf) | (refine Rn.skip ?_; conv => whnf) | (refine Rn.ret ?_; conv => whnf) | (refine Rn.exit ?_; conv => whnf) | (refine Rn.cond rfl ?_; conv => whnf) | (refine And.intro (InR.i64 (by omega) (by omega)) ?_; conv => whnf) | (refine And.intro (show _ ≠ (0 : Int) by omega) ?_; conv => whnf) | (refine WIx.intsN (by omega) ?_; conv => whnf) | (refine WIx.rowsN (by omega) ?_; conv => whnf) | (refine WCall.pure (cR) ?_; conv => whnf)
        refine WB.mk (fun hc => ?_) (fun hc => ?_) <;> conv => whnf
        · rw [if_pos hc] at hsc
          repeat' first | ((with_reducible apply WB.tt); conv => whnf) | ((with_reducible apply WB.ff); conv => whnf) | (refine Rn.seq ?_; conv => whnf) | (refine Rn.reg ?_; conv => whnf) | (refine Rn.drw ?_; conv => whnf) | (refine Rn.blk ?_; conv => whnf) | (refine Rn.skip ?_; conv => whnf) | (refine Rn.ret ?_; conv => whnf) | (refine Rn.exit ?_; conv => whnf) | (refine Rn.cond rfl ?_; conv => whnf) | (refine And.intro (InR.i64 (by omega) (by omega)) ?_; conv => whnf) | (refine And.intro (show _ ≠ (0 : Int) by omega) ?_; conv => whnf) | (refine WIx.intsN (by omega) ?_; conv => whnf) | (refine WIx.rowsN (by omega) ?_; conv => whnf)
          refine And.intro (InR.u64 (by omega) (by omega)) ?_; conv => whnf
          repeat' first | ((with_reducible apply WB.tt); conv => whnf) | ((with_reducible apply WB.ff); conv => whnf) | (refine Rn.seq ?_; conv => whnf) | (refine Rn.reg ?_; conv => whnf) | (refine Rn.drw ?_; conv => whnf) | (refine Rn.blk ?_; conv => whnf) | (refine Rn.skip ?_; conv => whnf) | (refine Rn.ret ?_; conv => whnf) | (refine Rn.exit ?_; conv => whnf) | (refine Rn.cond rfl ?_; conv => whnf) | (refine And.intro (InR.i64 (by omega) (by omega)) ?_; conv => whnf) | (refine And.intro (show _ ≠ (0 : Int) by omega) ?_; conv => whnf) | (refine WIx.intsN (by omega) ?_; conv => whnf) | (refine WIx.rowsN (by omega) ?_; conv => whnf)
          refine WSt.shlN (a := 1) (by rfl) (by rfl) (by rw [Nat.one_mul]; omega) (by omega) ?_; conv => whnf
          repeat' first | ((with_reducible apply WB.tt); conv => whnf) | ((with_reducible apply WB.ff); conv => whnf) | (refine Rn.seq ?_; conv => whnf) | (refine Rn.reg ?_; conv => whnf) | (refine Rn.drw ?_; conv => whnf) | (refine Rn.blk ?_; conv => whnf) | (refine Rn.skip ?_; conv => whnf) | (refine Rn.ret ?_; conv => whnf) | (refine Rn.exit ?_; conv => whnf) | (refine Rn.cond rfl ?_; conv => whnf) | (refine And.intro (InR.i64 (by omega) (by omega)) ?_; conv => whnf) | (refine And.intro (show _ ≠ (0 : Int) by omega) ?_; conv => whnf) | (refine WIx.intsN (by omega) ?_; conv => whnf) | (refine WIx.rowsN (by omega) ?_; conv => whnf)
          refine WSt.orB (by rfl) (by rfl) (by omega) (by rw [Nat.one_mul]; omega) ?_; conv => whnf
          repeat' first | ((with_reducible apply WB.tt); conv => whnf) | ((with_reducible apply WB.ff); conv => whnf) | (refine Rn.seq ?_; conv => whnf) | (refine Rn.reg ?_; conv => whnf) | (refine Rn.drw ?_; conv => whnf) | (refine Rn.blk ?_; conv => whnf) | (refine Rn.skip ?_; conv => whnf) | (refine Rn.ret ?_; conv => whnf) | (refine Rn.exit ?_; conv => whnf) | (refine Rn.cond rfl ?_; conv => whnf) | (refine And.intro (InR.i64 (by omega) (by omega)) ?_; conv => whnf) | (refine And.intro (show _ ≠ (0 : Int) by omega) ?_; conv => whnf) | (refine WIx.intsN (by omega) ?_; conv => whnf) | (refine WIx.rowsN (by omega) ?_; conv => whnf)
          refine Again.to (q + 1) (by omega) (by omega) (Nat.le_refl _) ?_
          refine Shr.of ?_ ?_ rfl rfl
          · show Rel _ _ ((.n (.n (.n (.n .e (some (.i .i64 ((q + 1 : Nat) : Int))) .e) (some (.sl (.i .h) 0 (j + 1) j 1)) .e) (some (.pt .h 0 0)) (.n .e (some (.i .i64 ((((j + 1) : Nat) : Int)))) .e)) none (.n (.n .e (some (.lst 1 (rows tD L))) .e) none (.n .e (some (.i .i64 ((markN ms (L.getD (j + 1) default) (q + 1) : Nat) : Int))) .e))) : T D) _
            rw [hsc]
            (repeat' first | exact Rel.e | refine Rel.some ?_ ?_ ?_ | refine Rel.none ?_ ?_ | refine Rel.ee ?_ ?_)
            all_goals show Fz _ _ _ _
            all_goals first | exact .pu trivial | exact .pu (pu_tR _) | exact .kpt (show _ < 4 by simp [Pos.nat]) | exact .ksl (show _ < 4 by simp [Pos.nat])
          · show Rel _ _ ((.n .e (some (tabC last hs step lv ms)) (.n .e (some (.cells false ((nD (A.take (j + 1))).map fun d => Cell.o d j) (j + 1))) .e)) : T C) _
            (repeat' first | exact Rel.e | refine Rel.some ?_ ?_ ?_ | refine Rel.none ?_ ?_ | refine Rel.ee ?_ ?_)
            all_goals first
              | exact RO'.of (show _ < 4 by simp [Pos.nat]) (tabC_sh last hs step lv ms)
              | exact RO'.of (show _ < 4 by simp [Pos.nat]) (ShC.same fun c hc => by
                  obtain ⟨d, hd, rfl⟩ := List.mem_map.1 hc
                  exact .pu (PuL_iff.1 (pu_nD _) d hd))
        · rw [if_neg (by rw [hc]; decide)] at hsc
          repeat' first | ((with_reducible apply WB.tt); conv => whnf) | ((with_reducible apply WB.ff); conv => whnf) | (refine Rn.seq ?_; conv => whnf) | (refine Rn.reg ?_; conv => whnf) | (refine Rn.drw ?_; conv => whnf) | (refine Rn.blk ?_; conv => whnf) | (refine Rn.skip ?_; conv => whnf) | (refine Rn.ret ?_; conv => whnf) | (refine Rn.exit ?_; conv => whnf) | (refine Rn.cond rfl ?_; conv => whnf) | (refine And.intro (InR.i64 (by omega) (by omega)) ?_; conv => whnf) | (refine And.intro (show _ ≠ (0 : Int) by omega) ?_; conv => whnf) | (refine WIx.intsN (by omega) ?_; conv => whnf) | (refine WIx.rowsN (by omega) ?_; conv => whnf)
          refine Again.to (q + 1) (by omega) (by omega) (Nat.le_refl _) ?_
          refine Shr.of ?_ ?_ rfl rfl
          · show Rel _ _ ((.n (.n (.n (.n .e (some (.i .i64 ((q + 1 : Nat) : Int))) .e) (some (.sl (.i .h) 0 (j + 1) j 1)) .e) (some (.pt .h 0 0)) (.n .e (some (.i .i64 ((((j + 1) : Nat) : Int)))) .e)) none (.n (.n .e (some (.lst 1 (rows tD L))) .e) none (.n .e (some (.i .i64 ((markN ms (L.getD (j + 1) default) (q + 1) : Nat) : Int))) .e))) : T D) _
            rw [hsc]
            (repeat' first | exact Rel.e | refine Rel.some ?_ ?_ ?_ | refine Rel.none ?_ ?_ | refine Rel.ee ?_ ?_)
            all_goals show Fz _ _ _ _
            all_goals first | exact .pu trivial | exact .pu (pu_tR _) | exact .kpt (show _ < 4 by simp [Pos.nat]) | exact .ksl (show _ < 4 by simp [Pos.nat])
          · show Rel _ _ ((.n .e (some (tabC last hs step lv ms)) (.n .e (some (.cells false ((nD (A.take (j + 1))).map fun d => Cell.o d j) (j + 1))) .e)) : T C) _
            (repeat' first | exact Rel.e | refine Rel.some ?_ ?_ ?_ | refine Rel.none ?_ ?_ | refine Rel.ee ?_ ?_)
            all_goals first
              | exact RO'.of (show _ < 4 by simp [Pos.nat]) (tabC_sh last hs step lv ms)
              | exact RO'.of (show _ < 4 by simp [Pos.nat]) (ShC.same fun c hc => by
                  obtain ⟨d, hd, rfl⟩ := List.mem_map.1 hc
                  exact .pu (PuL_iff.1 (pu_nD _) d hd))
      · have hf := hfull (by omega)
        rw [hf]
        repeat' first | ((with_reducible apply WB.tt); conv => whnf) | ((with_reducible apply WB.ff); conv => whnf) | (refine Rn.seq ?_; conv => whnf) | (refine Rn.reg ?_; conv => whnf) | (refine Rn.drw ?_; conv => whnf) | (refine Rn.blk ?_; conv => whnf) | (refine Rn.skip ?_; conv => whnf) | (refine Rn.ret ?_; conv => whnf) | (refine Rn.exit ?_; conv => whnf) | (refine Rn.cond rfl ?_; conv => whnf) | (refine And.intro (InR.i64 (by omega) (by omega)) ?_; conv => whnf) | (refine And.intro (show _ ≠ (0 : Int) by omega) ?_; conv => whnf) | (refine WIx.intsN (by omega) ?_; conv => whnf) | (refine WIx.rowsN (by omega) ?_; conv => whnf)
        refine WSt.app_one (ds := nD (A.take (j + 1))) (r := [_]) rfl rfl rfl rfl rfl rfl (by simp [nD]; omega) rfl rfl (by omega) rfl ?_; conv => whnf
        repeat' first | ((with_reducible apply WB.tt); conv => whnf) | ((with_reducible apply WB.ff); conv => whnf) | (refine Rn.seq ?_; conv => whnf) | (refine Rn.reg ?_; conv => whnf) | (refine Rn.drw ?_; conv => whnf) | (refine Rn.blk ?_; conv => whnf) | (refine Rn.skip ?_; conv => whnf) | (refine Rn.ret ?_; conv => whnf) | (refine Rn.exit ?_; conv => whnf) | (refine Rn.cond rfl ?_; conv => whnf) | (refine And.intro (InR.i64 (by omega) (by omega)) ?_; conv => whnf) | (refine And.intro (show _ ≠ (0 : Int) by omega) ?_; conv => whnf) | (refine WIx.intsN (by omega) ?_; conv => whnf) | (refine WIx.rowsN (by omega) ?_; conv => whnf)
        refine Again.to (j + 2) (by omega) (by omega) (Nat.le_of_ble_eq_true rfl) ?_
        have ht : nD (A.take (j + 1 + 1)) = nD (A.take (j + 1)) ++ [.i .i64 (A.getD (j + 1) 0)] := by rw [take_succ_getD (j := j + 1) (d := 0) (by omega), nD_snoc]
        refine Shr.of ?_ ?_ rfl rfl
        · show Rel _ _ ((.n (.n (.n .e (some (.sl (.i .h) 0 (j + 1 + 1) (j + 1) 1)) .e) (some (.pt .h 0 0)) (.n .e (some (.i .i64 ((j + 1 + 1 : Nat) : Int))) .e)) none (.n (.n .e (some (.lst 1 (rows tD L))) .e) none .e)) : T D) _
          (repeat' first | exact Rel.e | refine Rel.some ?_ ?_ ?_ | refine Rel.none ?_ ?_ | refine Rel.ee ?_ ?_)
          all_goals show Fz _ _ _ _
          all_goals first | exact .pu trivial | exact .pu (pu_tR _) | exact .kpt (show _ < 4 by simp [Pos.nat]) | exact .ksl (show _ < 4 by simp [Pos.nat])
        · show Rel _ _ ((.n .e (some (tabC last hs step lv ms)) (.n .e (some (.cells false ((nD (A.take (j + 1 + 1))).map fun d => Cell.o d (j + 1)) (j + 1 + 1))) .e)) : T C) _
          rw [ht]
          (repeat' first | exact Rel.e | refine Rel.some ?_ ?_ ?_ | refine Rel.none ?_ ?_ | refine Rel.ee ?_ ?_)
          all_goals first
            | exact RO'.of (show _ < 4 by simp [Pos.nat]) (tabC_sh last hs step lv ms)
            | (refine RO'.of (show _ < 4 by simp [Pos.nat]) ?_
               exact ShC.grown (by omega) (PuL_iff.2 fun d hd => by
                rcases List.mem_append.1 hd with hd | hd
                · exact PuL_iff.1 (pu_nD _) d hd
                · simp at hd; subst hd; exact trivial))

    · repeat' first | ((with_reducible apply WB.tt); conv => whnf) | ((with_reducible apply WB.ff); conv => whnf) | (refine Rn.seq ?_; conv => whnf) | (refine Rn.reg ?_; conv => whnf) | (refine Rn.drw ?_; conv => whnf) | (refine Rn.blk ?_; conv => whnf) | (refine Rn.skip ?_; conv => whnf) | (refine Rn.ret ?_; conv => whnf) | (refine Rn.exit ?_; conv => whnf) | (refine Rn.cond rfl ?_; conv => whnf) | (refine And.intro (InR.i64 (by omega) (by omega)) ?_; conv => whnf) | (refine And.intro (show _ ≠ (0 : Int) by omega) ?_; conv => whnf) | (refine WIx.intsN (by omega) ?_; conv => whnf) | (refine WIx.rowsN (by omega) ?_; conv => whnf)
      have he : A.take (j + 1) = A := List.take_of_length_le (by omega)
      exact Fin.t (.inr rfl) rfl (Frz.whole (cs := (nD (A.take (j + 1))).map fun d => Cell.o d j) (cur := j + 1) rfl (by rw [ints_length]; omega) (ints_one _) (by rw [he, ints_flatten]; rfl) (pu_ints _))
end Go.Ev

namespace Go.Ev
open Go.Proofs
set_option maxRecDepth 100000
def idxR (A : List Int) (x : Int) : Int :=
  match (List.range A.length).find? fun i : Nat => decide (x = A.getD i 0) with
  | some n => (n : Int)
  | none => -1
theorem c_Index (A : List Int) (x : Int) (hl : A.length ≤ 1000) : PureF Try.prog p112.ix [.lst 1 (ints A), .i .i64 x] (.i .i64 (idxR A x)) := by
  have e1 := ints_length A
  refine PureF.run fn111 (by simp) (by simp [PuL, PuE, Pu, pu_ints]) ?_; conv => whnf
  repeat' first | ((with_reducible apply WB.tt); conv => whnf) | ((with_reducible apply WB.ff); conv => whnf) | (refine Rn.seq ?_; conv => whnf) | (refine Rn.reg ?_; conv => whnf) | (refine Rn.drw ?_; conv => whnf) | (refine Rn.blk ?_; conv => whnf) | (refine Rn.skip ?_; conv => whnf) | (refine Rn.ret ?_; conv => whnf) | (refine Rn.exit ?_; conv => whnf) | (refine Rn.cond rfl ?_; conv => whnf) | (refine And.intro (InR.i64 (by omega) (by omega)) ?_; conv => whnf) | (refine And.intro (show _ ≠ (0 : Int) by omega) ?_; conv => whnf) | (refine WIx.intsN (by omega) ?_; conv => whnf) | (refine WIx.rowsN (by omega) ?_; conv => whnf)
  refine Rn.loop (fun j : Nat => ⟨(.n (.n (.n (.n .e (some (.i .i64 (A.length : Int))) .e) none .e) (some (.i .i64 x)) .e) (some (.lst 1 (ints A))) (.n (.n (.n .e (some (.i .i64 (j : Int))) .e) none .e) none .e)), .e, .h, none⟩) (fun j => j ≤ A.length ∧ ∀ i, i < j → decide (x = A.getD i 0) = false) (fun j => A.length - j) 0 ?_ ?_ ?_
  · refine X.le.mk ?_ (T.le_e _) (Nat.le_refl _) rfl rfl
    show T.le ((.n (.n (.n (.n .e (some (.i .i64 (A.length : Int))) .e) none .e) (some (.i .i64 x)) .e) (some (.lst 1 (ints A))) (.n (.n (.n .e (some (.i .i64 0)) .e) none .e) none .e)) : T D) _
    rw [← e1]
    (repeat' first | exact T.le_e _ | refine T.le_some ?_ rfl ?_ | refine T.le_none ?_ ?_)
  · exact ⟨Nat.zero_le _, fun i h => by omega⟩
  rintro j ⟨hj, ha⟩
  conv => whnf
  repeat' first | ((with_reducible apply WB.tt); conv => whnf) | ((with_reducible apply WB.ff); conv => whnf) | (refine Rn.seq ?_; conv => whnf) | (refine Rn.reg ?_; conv => whnf) | (refine Rn.drw ?_; conv => whnf) | (refine Rn.blk ?_; conv => whnf) | (refine Rn.skip ?_; conv => whnf) | (refine Rn.ret ?_; conv => whnf) | (refine Rn.exit ?_; conv => whnf) | (refine Rn.cond rfl ?_; conv => whnf) | (refine And.intro (InR.i64 (by omega) (by omega)) ?_; conv => whnf) | (refine And.intro (show _ ≠ (0 : Int) by omega) ?_; conv => whnf) | (refine WIx.intsN (by omega) ?_; conv => whnf) | (refine WIx.rowsN (by omega) ?_; conv => whnf)
  refine WB.dec (fun h => ?_) (fun h => ?_) <;> conv => whnf
  · have hlt : j < A.length := by omega
    repeat' first | ((with_reducible apply WB.tt); conv => whnf) | ((with_reducible apply WB.ff); conv => whnf) | (refine Rn.seq ?_; conv => whnf) | (refine Rn.reg ?_; conv => whnf) | (refine Rn.drw ?_; conv => whnf) | (refine Rn.blk ?_; conv => whnf) | (refine Rn.skip ?_; conv => whnf) | (refine Rn.ret ?_; conv => whnf) | (refine Rn.exit ?_; conv => whnf) | (refine Rn.cond rfl ?_; conv => whnf) | (refine And.intro (InR.i64 (by omega) (by omega)) ?_; conv => whnf) | (refine And.intro (show _ ≠ (0 : Int) by omega) ?_; conv => whnf) | (refine WIx.intsN (by omega) ?_; conv => whnf) | (refine WIx.rowsN (by omega) ?_; conv => whnf)
    refine WB.dec (fun h => ?_) (fun h => ?_) <;> conv => whnf
    · have hx : x = A.getD j 0 := h
      repeat' first | ((with_reducible apply WB.tt); conv => whnf) | ((with_reducible apply WB.ff); conv => whnf) | (refine Rn.seq ?_; conv => whnf) | (refine Rn.reg ?_; conv => whnf) | (refine Rn.drw ?_; conv => whnf) | (refine Rn.blk ?_; conv => whnf) | (refine Rn.skip ?_; conv => whnf) | (refine Rn.ret ?_; conv => whnf) | (refine Rn.exit ?_; conv => whnf) | (refine Rn.cond rfl ?_; conv => whnf) | (refine And.intro (InR.i64 (by omega) (by omega)) ?_; conv => whnf) | (refine And.intro (show _ ≠ (0 : Int) by omega) ?_; conv => whnf) | (refine WIx.intsN (by omega) ?_; conv => whnf) | (refine WIx.rowsN (by omega) ?_; conv => whnf)
      refine Fin.i rfl ?_
      unfold idxR
      rw [List.find?_range_eq_some.2 ⟨decide_eq_true hx, List.mem_range.2 hlt, fun i hi => by rw [ha i hi]; rfl⟩]
    · have hx : ¬ x = A.getD j 0 := h
      repeat' first | ((with_reducible apply WB.tt); conv => whnf) | ((with_reducible apply WB.ff); conv => whnf) | (refine Rn.seq ?_; conv => whnf) | (refine Rn.reg ?_; conv => whnf) | (refine Rn.drw ?_; conv => whnf) | (refine Rn.blk ?_; conv => whnf) | (refine Rn.skip ?_; conv => whnf) | (refine Rn.ret ?_; conv => whnf) | (refine Rn.exit ?_; conv => whnf) | (refine Rn.cond rfl ?_; conv => whnf) | (refine And.intro (InR.i64 (by omega) (by omega)) ?_; conv => whnf) | (refine And.intro (show _ ≠ (0 : Int) by omega) ?_; conv => whnf) | (refine WIx.intsN (by omega) ?_; conv => whnf) | (refine WIx.rowsN (by omega) ?_; conv => whnf)
      refine Again.to (j + 1) (by omega) ⟨by omega, fun i hi => ?_⟩ (Nat.le_refl _) ?_
      · by_cases e : i = j
        · subst e; exact decide_eq_false hx
        · exact ha i (by omega)
      (refine Shr.of ?_ ?_ rfl rfl) <;> (repeat' first | exact Rel.e | refine Rel.some ?_ ?_ ?_ | refine Rel.none ?_ ?_) <;> (try first | (show Fz _ _ _ _; first | exact Fz.pu trivial | (refine Fz.i ?_; first | rfl | omega) | (refine Fz.kpt ?_; (focus (show Pos.nat _ < Pos.nat _; simp [Pos.nat]; done))) | (refine Fz.ksl ?_; (focus (show Pos.nat _ < Pos.nat _; simp [Pos.nat]; done))) | (refine Fz.kmp ?_; (focus (show Pos.nat _ < Pos.nat _; simp [Pos.nat]; done))) | (refine Fz.pu ?_; simp [Cell.d, Pu, PuL, PuE, pu_ints, pu_rg, pu_mk, pu_seas, pu_tR]; done) | (refine Fz.pu ?_; simp only [Cell.d]; assumption)) | (refine RO'.of ?_ (ShC.same ?_); (focus (show Pos.nat _ < Pos.nat _; simp [Pos.nat]; done)); (repeat' first | exact ShC.nl | refine ShC.cn ?_ ?_) <;> first | exact Fz.pu trivial | (refine Fz.i ?_; first | rfl | omega) | (refine Fz.kpt ?_; (focus (show Pos.nat _ < Pos.nat _; simp [Pos.nat]; done))) | (refine Fz.ksl ?_; (focus (show Pos.nat _ < Pos.nat _; simp [Pos.nat]; done))) | (refine Fz.kmp ?_; (focus (show Pos.nat _ < Pos.nat _; simp [Pos.nat]; done))) | (refine Fz.pu ?_; simp [Cell.d, Pu, PuL, PuE, pu_ints, pu_rg, pu_mk, pu_seas, pu_tR]; done) | (refine Fz.pu ?_; simp only [Cell.d]; assumption)))
      all_goals first | (refine Fz.i ?_; omega) | (refine Fz.pu ?_; simp [Pu, pu_ints])
  · repeat' first | ((with_reducible apply WB.tt); conv => whnf) | ((with_reducible apply WB.ff); conv => whnf) | (refine Rn.seq ?_; conv => whnf) | (refine Rn.reg ?_; conv => whnf) | (refine Rn.drw ?_; conv => whnf) | (refine Rn.blk ?_; conv => whnf) | (refine Rn.skip ?_; conv => whnf) | (refine Rn.ret ?_; conv => whnf) | (refine Rn.exit ?_; conv => whnf) | (refine Rn.cond rfl ?_; conv => whnf) | (refine And.intro (InR.i64 (by omega) (by omega)) ?_; conv => whnf) | (refine And.intro (show _ ≠ (0 : Int) by omega) ?_; conv => whnf) | (refine WIx.intsN (by omega) ?_; conv => whnf) | (refine WIx.rowsN (by omega) ?_; conv => whnf)
    refine Fin.i rfl ?_
    unfold idxR
    rw [List.find?_range_eq_none.2 fun i hi => by rw [ha i (by omega)]; rfl]
def conR (A : List Int) (x : Int) : Bool := decide (0 ≤ idxR A x)
theorem c_Contains (A : List Int) (x : Int) (hl : A.length ≤ 1000) : PureF Try.prog p111.ix [.lst 1 (ints A), .i .i64 x] (.b (conR A x)) := by
  have iI := c_Index A x hl
  refine PureF.run fn110 (by simp) (by simp [PuL, PuE, Pu, pu_ints]) ?_; conv => whnf
  repeat' first | ((with_reducible apply WB.tt); conv => whnf) | ((with_reducible apply WB.ff); conv => whnf) | (refine Rn.seq ?_; conv => whnf) | (refine Rn.reg ?_; conv => whnf) | (refine Rn.drw ?_; conv => whnf) | (refine Rn.blk ?_; conv => whnf) | (refine Rn.skip ?_; conv => whnf) | (refine Rn.ret ?_; conv => whnf) | (refine Rn.exit ?_; conv => whnf) | (refine Rn.cond rfl ?_; conv => whnf) | (refine And.intro (InR.i64 (by omega) (by omega)) ?_; conv => whnf) | (refine And.intro (show _ ≠ (0 : Int) by omega) ?_; conv => whnf) | (refine WIx.intsN (by omega) ?_; conv => whnf) | (refine WIx.rowsN (by omega) ?_; conv => whnf) | (refine WCall.pure (iI) ?_; conv => whnf)
  exact Fin.b rfl rfl
theorem c_IndexN (x : Int) : PureF Try.prog p112.ix [.ns, .i .i64 x] (.i .i64 (-1)) := by
  refine PureF.run fn111 (by simp) (by simp [PuL, PuE, Pu]) ?_; conv => whnf
  repeat' first | ((with_reducible apply WB.tt); conv => whnf) | ((with_reducible apply WB.ff); conv => whnf) | (refine Rn.seq ?_; conv => whnf) | (refine Rn.reg ?_; conv => whnf) | (refine Rn.drw ?_; conv => whnf) | (refine Rn.blk ?_; conv => whnf) | (refine Rn.skip ?_; conv => whnf) | (refine Rn.ret ?_; conv => whnf) | (refine Rn.exit ?_; conv => whnf) | (refine Rn.cond rfl ?_; conv => whnf) | (refine And.intro (InR.i64 (by omega) (by omega)) ?_; conv => whnf) | (refine And.intro (show _ ≠ (0 : Int) by omega) ?_; conv => whnf) | (refine WIx.intsN (by omega) ?_; conv => whnf) | (refine WIx.rowsN (by omega) ?_; conv => whnf)
  refine Rn.loop (fun _ : Nat => ⟨(.n (.n (.n (.n .e (some (.i .i64 0)) .e) none .e) (some (.i .i64 x)) .e) (some (.ns)) (.n (.n (.n .e (some (.i .i64 0)) .e) none .e) none .e)), .e, .h, none⟩) (fun _ => True) (fun _ => 0) 0 ?_ ?_ ?_
  · (first | (refine X.le.mk ?_ ?_ (Nat.le_refl _) rfl rfl) | skip) <;> (repeat' first | exact T.le_e _ | refine T.le_some ?_ ?_ ?_ | refine T.le_none ?_ ?_ | rfl)
  · trivial
  intro j _
  conv => whnf
  repeat' first | ((with_reducible apply WB.tt); conv => whnf) | ((with_reducible apply WB.ff); conv => whnf) | (refine Rn.seq ?_; conv => whnf) | (refine Rn.reg ?_; conv => whnf) | (refine Rn.drw ?_; conv => whnf) | (refine Rn.blk ?_; conv => whnf) | (refine Rn.skip ?_; conv => whnf) | (refine Rn.ret ?_; conv => whnf) | (refine Rn.exit ?_; conv => whnf) | (refine Rn.cond rfl ?_; conv => whnf) | (refine And.intro (InR.i64 (by omega) (by omega)) ?_; conv => whnf) | (refine And.intro (show _ ≠ (0 : Int) by omega) ?_; conv => whnf) | (refine WIx.intsN (by omega) ?_; conv => whnf) | (refine WIx.rowsN (by omega) ?_; conv => whnf)
  refine WB.ff ?_; conv => whnf
  repeat' first | ((with_reducible apply WB.tt); conv => whnf) | ((with_reducible apply WB.ff); conv => whnf) | (refine Rn.seq ?_; conv => whnf) | (refine Rn.reg ?_; conv => whnf) | (refine Rn.drw ?_; conv => whnf) | (refine Rn.blk ?_; conv => whnf) | (refine Rn.skip ?_; conv => whnf) | (refine Rn.ret ?_; conv => whnf) | (refine Rn.exit ?_; conv => whnf) | (refine Rn.cond rfl ?_; conv => whnf) | (refine And.intro (InR.i64 (by omega) (by omega)) ?_; conv => whnf) | (refine And.intro (show _ ≠ (0 : Int) by omega) ?_; conv => whnf) | (refine WIx.intsN (by omega) ?_; conv => whnf) | (refine WIx.rowsN (by omega) ?_; conv => whnf)
  exact Fin.i rfl rfl
theorem c_ContainsN (x : Int) : PureF Try.prog p111.ix [.ns, .i .i64 x] (.b (conR [] x)) := by
  have iI := c_IndexN x
  refine PureF.run fn110 (by simp) (by simp [PuL, PuE, Pu]) ?_; conv => whnf
  repeat' first | ((with_reducible apply WB.tt); conv => whnf) | ((with_reducible apply WB.ff); conv => whnf) | (refine Rn.seq ?_; conv => whnf) | (refine Rn.reg ?_; conv => whnf) | (refine Rn.drw ?_; conv => whnf) | (refine Rn.blk ?_; conv => whnf) | (refine Rn.skip ?_; conv => whnf) | (refine Rn.ret ?_; conv => whnf) | (refine Rn.exit ?_; conv => whnf) | (refine Rn.cond rfl ?_; conv => whnf) | (refine And.intro (InR.i64 (by omega) (by omega)) ?_; conv => whnf) | (refine And.intro (show _ ≠ (0 : Int) by omega) ?_; conv => whnf) | (refine WIx.intsN (by omega) ?_; conv => whnf) | (refine WIx.rowsN (by omega) ?_; conv => whnf) | (refine WCall.pure (iI) ?_; conv => whnf)
  exact Fin.b rfl rfl
def slW : List Mk → D
  | [] => .ns
  | _ :: s => .sl (.o (.o .h)) 0 (s.length + 1) s.length 4
def blW : List Mk → Option C
  | [] => none
  | a :: s => some (.cells false ((mkF (a :: s)).map fun d => Cell.o d s.length) (s.length + 1))
def nxW : List Mk → Pos
  | [] => .o .h
  | _ :: _ => .i (.o .h)
theorem slW_snoc (a : Mk) (s : List Mk) (x : Mk) : slW (a :: (s ++ [x])) = .sl (.o (.o .h)) 0 (s.length + 1 + 1) (s.length + 1) 4 := by simp [slW]
theorem blW_snoc (a : Mk) (s : List Mk) (x : Mk) : blW (a :: (s ++ [x])) = some (.cells false ((mkF (a :: s) ++ mkD x).map fun d => Cell.o d (s.length + 1)) (s.length + 1 + 1)) := by
  have h2 : mkF (a :: (s ++ [x])) = mkF (a :: s) ++ mkD x := mkF_snoc (a :: s) x
  simp [blW, h2]
def woJ (ms : List Mk) (S : List Int) (j : Nat) : List Mk := ((List.range j).filter fun i : Nat => !conR S (i : Int)).map fun i => ms.getD i default
def woR (ms : List Mk) (S : List Int) : List Mk := woJ ms S ms.length
theorem woJ_succ (ms : List Mk) (S : List Int) (j : Nat) : woJ ms S (j + 1) = if conR S (j : Int) = true then woJ ms S j else woJ ms S j ++ [ms.getD j default] := by
  unfold woJ
  rw [List.range_succ, List.filter_append, List.map_append]
  cases h : conR S (j : Int) with
  | true => rw [if_pos rfl]; simp [h]
  | false => rw [if_neg (by decide)]; simp [h]
def woS (ms : List Mk) (sd : D) (A : List Mk) (j : Nat) : X := ⟨(.n (.n (.n .e none (.n .e (some (.i .i64 (ms.length : Int))) .e)) (some (sd)) (.n .e (some (slW A)) .e)) none (.n (.n .e none (.n .e (some (.i .i64 (j : Int))) .e)) none (.n (.n .e (some (.lst 4 (rows mkD ms))) .e) none .e))), .n (.n (.n .e (blW A) .e) none .e) none .e, nxW A, none⟩
theorem c_without (last : Int) (hs : List Rg) (step : Int) (lv : List Int) (ms : List Mk) (tr : D) (htr : Pu tr) (S : List Int) (hm : ms.length ≤ 1000) (sd : D) (hsd : Pu sd) (hC : ∀ j : Nat, PureF Try.prog p111.ix [sd, .i .i64 (j : Int)] (.b (conR S (j : Int)))) : PureF Try.prog p105.ix [.ag [.i .i64 last, .lst 2 (rows rgD hs), .i .i64 step, .lst 1 (ints lv), .lst 4 (rows mkD ms), tr], sd] (.lst 4 (rows mkD (woR ms S))) := by
  have e3 := rows_length mkD ms
  refine PureF.run fn104 (by simp) (by simp [PuL, PuE, Pu, pu_ints, pu_rg, pu_mk, htr, hsd]) ?_; conv => whnf
  repeat' first | ((with_reducible apply WB.tt); conv => whnf) | ((with_reducible apply WB.ff); conv => whnf) | (refine Rn.seq ?_; conv => whnf) | (refine Rn.reg ?_; conv => whnf) | (refine Rn.drw ?_; conv => whnf) | (refine Rn.blk ?_; conv => whnf) | (refine Rn.skip ?_; conv => whnf) | (refine Rn.ret ?_; conv => whnf) | (refine Rn.exit ?_; conv => whnf) | (refine Rn.cond rfl ?_; conv => whnf) | (refine And.intro (InR.i64 (by omega) (by omega)) ?_; conv => whnf) | (refine And.intro (show _ ≠ (0 : Int) by omega) ?_; conv => whnf) | (refine WIx.intsN (by omega) ?_; conv => whnf) | (refine WIx.rowsN (by omega) ?_; conv => whnf)
  refine Rn.loop (fun j : Nat => woS ms sd (woJ ms S j) j) (fun j => j ≤ ms.length) (fun j => ms.length - j) 0 ?_ ?_ ?_
  · refine X.le.mk ?_ ?_ (Nat.le_refl _) rfl rfl
    · show T.le ((.n (.n (.n .e none (.n .e (some (.i .i64 (ms.length : Int))) .e)) (some (sd)) (.n .e (some (.ns)) .e)) none (.n (.n .e none (.n .e (some (.i .i64 ((0 : Nat) : Int))) .e)) none (.n (.n .e (some (.lst 4 (rows mkD ms))) .e) none .e))) : T D) _
      rw [← e3]
      (repeat' first | exact T.le_e _ | refine T.le_some ?_ rfl ?_ | refine T.le_none ?_ ?_)
    · show T.le (.n (.n (.n .e none .e) none .e) none .e) _
      (repeat' first | exact T.le_e _ | refine T.le_some ?_ rfl ?_ | refine T.le_none ?_ ?_ | refine T.le_ee ?_ ?_)
  · exact Nat.zero_le _
  intro j hj
  have hj : j ≤ ms.length := hj
  have hsc := woJ_succ ms S j
  have hAl : (woJ ms S j).length ≤ 1000 := by
    unfold woJ
    rw [List.length_map]
    have := List.length_filter_le (fun i : Nat => !conR S (i : Int)) (List.range j)
    rw [List.length_range] at this
    omega
  have hend : j = ms.length → woJ ms S j = woR ms S := fun e => by rw [e]; rfl
  generalize hA : woJ ms S j = A at *
  conv => whnf
  repeat' first | ((with_reducible apply WB.tt); conv => whnf) | ((with_reducible apply WB.ff); conv => whnf) | (refine Rn.seq ?_; conv => whnf) | (refine Rn.reg ?_; conv => whnf) | (refine Rn.drw ?_; conv => whnf) | (refine Rn.blk ?_; conv => whnf) | (refine Rn.skip ?_; conv => whnf) | (refine Rn.ret ?_; conv => whnf) | (refine Rn.exit ?_; conv => whnf) | (refine Rn.cond rfl ?_; conv => whnf) | (refine And.intro (InR.i64 (by omega) (by omega)) ?_; conv => whnf) | (refine And.intro (show _ ≠ (0 : Int) by omega) ?_; conv => whnf) | (refine WIx.intsN (by omega) ?_; conv => whnf) | (refine WIx.rowsN (by omega) ?_; conv => whnf)
  refine WB.dec (fun h => ?_) (fun h => ?_) <;> conv => whnf
  · have hlt : j < ms.length := by omega
    have cC := hC j
    cases hc : conR S (j : Int) with
    | true =>
      rw [hc] at cC
      rw [hc, if_pos rfl] at hsc
      cases A with
      | nil =>
        repeat' first | ((with_reducible apply WB.tt); conv => whnf) | ((with_reducible apply WB.ff); conv => whnf) | (refine Rn.seq ?_; conv => whnf) | (refine Rn.reg ?_; conv => whnf) | (refine Rn.drw ?_; conv => whnf) | (refine Rn.blk ?_; conv => whnf) | (refine Rn.skip ?_; conv => whnf) | (refine Rn.ret ?_; conv => whnf) | (refine Rn.exit ?_; conv => whnf) | (refine Rn.cond rfl ?_; conv => whnf) | (refine And.intro (InR.i64 (by omega) (by omega)) ?_; conv => whnf) | (refine And.intro (show _ ≠ (0 : Int) by omega) ?_; conv => whnf) | (refine WIx.intsN (by omega) ?_; conv => whnf) | (refine WIx.rowsN (by omega) ?_; conv => whnf) | (refine WCall.pure (cC) ?_; conv => whnf)
        refine WB.ff ?_; conv => whnf
        repeat' first | ((with_reducible apply WB.tt); conv => whnf) | ((with_reducible apply WB.ff); conv => whnf) | (refine Rn.seq ?_; conv => whnf) | (refine Rn.reg ?_; conv => whnf) | (refine Rn.drw ?_; conv => whnf) | (refine Rn.blk ?_; conv => whnf) | (refine Rn.skip ?_; conv => whnf) | (refine Rn.ret ?_; conv => whnf) | (refine Rn.exit ?_; conv => whnf) | (refine Rn.cond rfl ?_; conv => whnf) | (refine And.intro (InR.i64 (by omega) (by omega)) ?_; conv => whnf) | (refine And.intro (show _ ≠ (0 : Int) by omega) ?_; conv => whnf) | (refine WIx.intsN (by omega) ?_; conv => whnf) | (refine WIx.rowsN (by omega) ?_; conv => whnf)
        refine Again.to (j + 1) (by omega) (by omega) (by show (nxW (woJ ms S j)).nat ≤ (nxW (woJ ms S (j + 1))).nat; rw [hA, hsc]; exact (show 2 ≤ 2 by omega)) ?_
        show Shr _ (woS ms sd (woJ ms S (j + 1)) (j + 1))
        rw [hsc]
        refine Shr.of ?_ ?_ rfl rfl
        · show Rel _ _ ((.n (.n (.n .e none (.n .e (some (.i .i64 (ms.length : Int))) .e)) (some (sd)) (.n .e (some (.ns)) .e)) none (.n (.n .e none (.n .e (some (.i .i64 ((j + 1 : Nat) : Int))) .e)) none (.n (.n .e (some (.lst 4 (rows mkD ms))) .e) none .e))) : T D) _
          skip
          (repeat' first | exact Rel.e | refine Rel.some ?_ ?_ ?_ | refine Rel.none ?_ ?_ | refine Rel.ee ?_ ?_)
          all_goals show Fz _ _ _ _
          all_goals first | exact .pu trivial | exact .pu hsd | exact .pu (pu_mk _) | exact .ksl (show _ < 5 by simp [Pos.nat])
        · show Rel _ _ (.n (.n (.n .e none .e) none .e) none .e) _
          skip
          (repeat' first | exact Rel.e | refine Rel.some ?_ ?_ ?_ | refine Rel.none ?_ ?_ | refine Rel.ee ?_ ?_)
          skip
      | cons a s =>
        repeat' first | ((with_reducible apply WB.tt); conv => whnf) | ((with_reducible apply WB.ff); conv => whnf) | (refine Rn.seq ?_; conv => whnf) | (refine Rn.reg ?_; conv => whnf) | (refine Rn.drw ?_; conv => whnf) | (refine Rn.blk ?_; conv => whnf) | (refine Rn.skip ?_; conv => whnf) | (refine Rn.ret ?_; conv => whnf) | (refine Rn.exit ?_; conv => whnf) | (refine Rn.cond rfl ?_; conv => whnf) | (refine And.intro (InR.i64 (by omega) (by omega)) ?_; conv => whnf) | (refine And.intro (show _ ≠ (0 : Int) by omega) ?_; conv => whnf) | (refine WIx.intsN (by omega) ?_; conv => whnf) | (refine WIx.rowsN (by omega) ?_; conv => whnf) | (refine WCall.pure (cC) ?_; conv => whnf)
        refine WB.ff ?_; conv => whnf
        repeat' first | ((with_reducible apply WB.tt); conv => whnf) | ((with_reducible apply WB.ff); conv => whnf) | (refine Rn.seq ?_; conv => whnf) | (refine Rn.reg ?_; conv => whnf) | (refine Rn.drw ?_; conv => whnf) | (refine Rn.blk ?_; conv => whnf) | (refine Rn.skip ?_; conv => whnf) | (refine Rn.ret ?_; conv => whnf) | (refine Rn.exit ?_; conv => whnf) | (refine Rn.cond rfl ?_; conv => whnf) | (refine And.intro (InR.i64 (by omega) (by omega)) ?_; conv => whnf) | (refine And.intro (show _ ≠ (0 : Int) by omega) ?_; conv => whnf) | (refine WIx.intsN (by omega) ?_; conv => whnf) | (refine WIx.rowsN (by omega) ?_; conv => whnf)
        refine Again.to (j + 1) (by omega) (by omega) (by show (nxW (woJ ms S j)).nat ≤ (nxW (woJ ms S (j + 1))).nat; rw [hA, hsc]; exact (show 5 ≤ 5 by omega)) ?_
        show Shr _ (woS ms sd (woJ ms S (j + 1)) (j + 1))
        rw [hsc]
        refine Shr.of ?_ ?_ rfl rfl
        · show Rel _ _ ((.n (.n (.n .e none (.n .e (some (.i .i64 (ms.length : Int))) .e)) (some (sd)) (.n .e (some ((.sl (.o (.o .h)) 0 (s.length + 1) s.length 4))) .e)) none (.n (.n .e none (.n .e (some (.i .i64 ((j + 1 : Nat) : Int))) .e)) none (.n (.n .e (some (.lst 4 (rows mkD ms))) .e) none .e))) : T D) _
          skip
          (repeat' first | exact Rel.e | refine Rel.some ?_ ?_ ?_ | refine Rel.none ?_ ?_ | refine Rel.ee ?_ ?_)
          all_goals show Fz _ _ _ _
          all_goals first | exact .pu trivial | exact .pu hsd | exact .pu (pu_mk _) | exact .ksl (show _ < 5 by simp [Pos.nat])
        · show Rel _ _ (.n (.n (.n .e (some (C.cells false ((mkF (a :: s)).map fun d => Cell.o d s.length) (s.length + 1))) .e) none .e) none .e) _
          skip
          (repeat' first | exact Rel.e | refine Rel.some ?_ ?_ ?_ | refine Rel.none ?_ ?_ | refine Rel.ee ?_ ?_)
          exact RO'.of (show _ < 5 by simp [Pos.nat]) (ShC.same fun c hc => by
            obtain ⟨d, hd, rfl⟩ := List.mem_map.1 hc
            exact .pu (PuL_iff.1 (pu_mkF _) d hd))
    | false =>
      rw [hc] at cC
      rw [hc, if_neg (by decide)] at hsc
      cases A with
      | nil =>
        repeat' first | ((with_reducible apply WB.tt); conv => whnf) | ((with_reducible apply WB.ff); conv => whnf) | (refine Rn.seq ?_; conv => whnf) | (refine Rn.reg ?_; conv => whnf) | (refine Rn.drw ?_; conv => whnf) | (refine Rn.blk ?_; conv => whnf) | (refine Rn.skip ?_; conv => whnf) | (refine Rn.ret ?_; conv => whnf) | (refine Rn.exit ?_; conv => whnf) | (refine Rn.cond rfl ?_; conv => whnf) | (refine And.intro (InR.i64 (by omega) (by omega)) ?_; conv => whnf) | (refine And.intro (show _ ≠ (0 : Int) by omega) ?_; conv => whnf) | (refine WIx.intsN (by omega) ?_; conv => whnf) | (refine WIx.rowsN (by omega) ?_; conv => whnf) | (refine WCall.pure (cC) ?_; conv => whnf)
        refine WB.tt ?_; conv => whnf
        repeat' first | ((with_reducible apply WB.tt); conv => whnf) | ((with_reducible apply WB.ff); conv => whnf) | (refine Rn.seq ?_; conv => whnf) | (refine Rn.reg ?_; conv => whnf) | (refine Rn.drw ?_; conv => whnf) | (refine Rn.blk ?_; conv => whnf) | (refine Rn.skip ?_; conv => whnf) | (refine Rn.ret ?_; conv => whnf) | (refine Rn.exit ?_; conv => whnf) | (refine Rn.cond rfl ?_; conv => whnf) | (refine And.intro (InR.i64 (by omega) (by omega)) ?_; conv => whnf) | (refine And.intro (show _ ≠ (0 : Int) by omega) ?_; conv => whnf) | (refine WIx.intsN (by omega) ?_; conv => whnf) | (refine WIx.rowsN (by omega) ?_; conv => whnf)
        refine WSt.app_first (r := mkD (ms.getD j default)) rfl (.inl rfl) rfl rfl rfl rfl ?_; conv => whnf
        repeat' first | ((with_reducible apply WB.tt); conv => whnf) | ((with_reducible apply WB.ff); conv => whnf) | (refine Rn.seq ?_; conv => whnf) | (refine Rn.reg ?_; conv => whnf) | (refine Rn.drw ?_; conv => whnf) | (refine Rn.blk ?_; conv => whnf) | (refine Rn.skip ?_; conv => whnf) | (refine Rn.ret ?_; conv => whnf) | (refine Rn.exit ?_; conv => whnf) | (refine Rn.cond rfl ?_; conv => whnf) | (refine And.intro (InR.i64 (by omega) (by omega)) ?_; conv => whnf) | (refine And.intro (show _ ≠ (0 : Int) by omega) ?_; conv => whnf) | (refine WIx.intsN (by omega) ?_; conv => whnf) | (refine WIx.rowsN (by omega) ?_; conv => whnf)
        refine Again.to (j + 1) (by omega) (by omega) (by show (nxW (woJ ms S j)).nat ≤ (nxW (woJ ms S (j + 1))).nat; rw [hA, hsc]; exact (show 2 ≤ 5 by omega)) ?_
        show Shr _ (woS ms sd (woJ ms S (j + 1)) (j + 1))
        rw [hsc]
        refine Shr.of ?_ ?_ rfl rfl
        · show Rel _ _ ((.n (.n (.n .e none (.n .e (some (.i .i64 (ms.length : Int))) .e)) (some (sd)) (.n .e (some ((.sl (.o (.o .h)) 0 1 0 4))) .e)) none (.n (.n .e none (.n .e (some (.i .i64 ((j + 1 : Nat) : Int))) .e)) none (.n (.n .e (some (.lst 4 (rows mkD ms))) .e) none .e))) : T D) _
          skip
          (repeat' first | exact Rel.e | refine Rel.some ?_ ?_ ?_ | refine Rel.none ?_ ?_ | refine Rel.ee ?_ ?_)
          all_goals show Fz _ _ _ _
          all_goals first | exact .pu trivial | exact .pu hsd | exact .pu (pu_mk _) | exact .ksl (show _ < 5 by simp [Pos.nat])
        · show Rel _ _ (.n (.n (.n .e (some (C.cells false ((mkF [ms.getD j default]).map fun d => Cell.o d 0) 1)) .e) none .e) none .e) _
          skip
          (repeat' first | exact Rel.e | refine Rel.some ?_ ?_ ?_ | refine Rel.none ?_ ?_ | refine Rel.ee ?_ ?_)
          rw [show mkF [ms.getD j default] = mkD (ms.getD j default) by simp [mkF, rows]]
          exact RO'.of (show _ < 5 by simp [Pos.nat]) (ShC.same (ShC.cn (.pu trivial) (ShC.cn (.pu trivial) (ShC.cn (.pu trivial) (ShC.cn (.pu trivial) ShC.nl)))))
      | cons a s =>
        have hs5 : s.length + 1 ≤ 1000 := hAl
        repeat' first | ((with_reducible apply WB.tt); conv => whnf) | ((with_reducible apply WB.ff); conv => whnf) | (refine Rn.seq ?_; conv => whnf) | (refine Rn.reg ?_; conv => whnf) | (refine Rn.drw ?_; conv => whnf) | (refine Rn.blk ?_; conv => whnf) | (refine Rn.skip ?_; conv => whnf) | (refine Rn.ret ?_; conv => whnf) | (refine Rn.exit ?_; conv => whnf) | (refine Rn.cond rfl ?_; conv => whnf) | (refine And.intro (InR.i64 (by omega) (by omega)) ?_; conv => whnf) | (refine And.intro (show _ ≠ (0 : Int) by omega) ?_; conv => whnf) | (refine WIx.intsN (by omega) ?_; conv => whnf) | (refine WIx.rowsN (by omega) ?_; conv => whnf) | (refine WCall.pure (cC) ?_; conv => whnf)
        refine WB.tt ?_; conv => whnf
        repeat' first | ((with_reducible apply WB.tt); conv => whnf) | ((with_reducible apply WB.ff); conv => whnf) | (refine Rn.seq ?_; conv => whnf) | (refine Rn.reg ?_; conv => whnf) | (refine Rn.drw ?_; conv => whnf) | (refine Rn.blk ?_; conv => whnf) | (refine Rn.skip ?_; conv => whnf) | (refine Rn.ret ?_; conv => whnf) | (refine Rn.exit ?_; conv => whnf) | (refine Rn.cond rfl ?_; conv => whnf) | (refine And.intro (InR.i64 (by omega) (by omega)) ?_; conv => whnf) | (refine And.intro (show _ ≠ (0 : Int) by omega) ?_; conv => whnf) | (refine WIx.intsN (by omega) ?_; conv => whnf) | (refine WIx.rowsN (by omega) ?_; conv => whnf)
        refine WSt.app_one (ds := mkF (a :: s)) (r := mkD (ms.getD j default)) rfl rfl rfl rfl rfl rfl (by rw [mkF_length]; rfl) rfl rfl (by omega) rfl ?_; conv => whnf
        repeat' first | ((with_reducible apply WB.tt); conv => whnf) | ((with_reducible apply WB.ff); conv => whnf) | (refine Rn.seq ?_; conv => whnf) | (refine Rn.reg ?_; conv => whnf) | (refine Rn.drw ?_; conv => whnf) | (refine Rn.blk ?_; conv => whnf) | (refine Rn.skip ?_; conv => whnf) | (refine Rn.ret ?_; conv => whnf) | (refine Rn.exit ?_; conv => whnf) | (refine Rn.cond rfl ?_; conv => whnf) | (refine And.intro (InR.i64 (by omega) (by omega)) ?_; conv => whnf) | (refine And.intro (show _ ≠ (0 : Int) by omega) ?_; conv => whnf) | (refine WIx.intsN (by omega) ?_; conv => whnf) | (refine WIx.rowsN (by omega) ?_; conv => whnf)
        refine Again.to (j + 1) (by omega) (by omega) (by show (nxW (woJ ms S j)).nat ≤ (nxW (woJ ms S (j + 1))).nat; rw [hA, hsc, List.cons_append]; exact (show 5 ≤ 5 by omega)) ?_
        show Shr _ (woS ms sd (woJ ms S (j + 1)) (j + 1))
        rw [hsc, List.cons_append]
        refine Shr.of ?_ ?_ rfl rfl
        · show Rel _ _ ((.n (.n (.n .e none (.n .e (some (.i .i64 (ms.length : Int))) .e)) (some (sd)) (.n .e (some ((slW (a :: (s ++ [ms.getD j default]))))) .e)) none (.n (.n .e none (.n .e (some (.i .i64 ((j + 1 : Nat) : Int))) .e)) none (.n (.n .e (some (.lst 4 (rows mkD ms))) .e) none .e))) : T D) _
          rw [slW_snoc]
          (repeat' first | exact Rel.e | refine Rel.some ?_ ?_ ?_ | refine Rel.none ?_ ?_ | refine Rel.ee ?_ ?_)
          all_goals show Fz _ _ _ _
          all_goals first | exact .pu trivial | exact .pu hsd | exact .pu (pu_mk _) | exact .ksl (show _ < 5 by simp [Pos.nat])
        · show Rel _ _ (.n (.n (.n .e (blW (a :: (s ++ [ms.getD j default]))) .e) none .e) none .e) _
          rw [blW_snoc]
          (repeat' first | exact Rel.e | refine Rel.some ?_ ?_ ?_ | refine Rel.none ?_ ?_ | refine Rel.ee ?_ ?_)
          exact RO'.of (show _ < 5 by simp [Pos.nat]) (ShC.grown (by omega) (PuL_iff.2 fun d hd => by
            rcases List.mem_append.1 hd with hd | hd
            · exact PuL_iff.1 (pu_mkF _) d hd
            · exact PuL_iff.1 (show PuL (mkD _) by simp [mkD, PuL, Pu]) d hd))
  · have he := hend (by omega)
    rw [← he]
    cases A with
    | nil =>
      repeat' first | ((with_reducible apply WB.tt); conv => whnf) | ((with_reducible apply WB.ff); conv => whnf) | (refine Rn.seq ?_; conv => whnf) | (refine Rn.reg ?_; conv => whnf) | (refine Rn.drw ?_; conv => whnf) | (refine Rn.blk ?_; conv => whnf) | (refine Rn.skip ?_; conv => whnf) | (refine Rn.ret ?_; conv => whnf) | (refine Rn.exit ?_; conv => whnf) | (refine Rn.cond rfl ?_; conv => whnf) | (refine And.intro (InR.i64 (by omega) (by omega)) ?_; conv => whnf) | (refine And.intro (show _ ≠ (0 : Int) by omega) ?_; conv => whnf) | (refine WIx.intsN (by omega) ?_; conv => whnf) | (refine WIx.rowsN (by omega) ?_; conv => whnf)
      exact Fin.t (.inr rfl) rfl .ns
    | cons a s =>
      repeat' first | ((with_reducible apply WB.tt); conv => whnf) | ((with_reducible apply WB.ff); conv => whnf) | (refine Rn.seq ?_; conv => whnf) | (refine Rn.reg ?_; conv => whnf) | (refine Rn.drw ?_; conv => whnf) | (refine Rn.blk ?_; conv => whnf) | (refine Rn.skip ?_; conv => whnf) | (refine Rn.ret ?_; conv => whnf) | (refine Rn.exit ?_; conv => whnf) | (refine Rn.cond rfl ?_; conv => whnf) | (refine And.intro (InR.i64 (by omega) (by omega)) ?_; conv => whnf) | (refine And.intro (show _ ≠ (0 : Int) by omega) ?_; conv => whnf) | (refine WIx.intsN (by omega) ?_; conv => whnf) | (refine WIx.rowsN (by omega) ?_; conv => whnf)
      exact Fin.t (.inr rfl) rfl (Frz.whole (cs := (mkF (a :: s)).map fun d => Cell.o d s.length) (cur := s.length + 1) rfl (by simp [rows]) (mk_four _) (by rfl) (pu_mk _))
def setD : List Int → D
  | [] => .ns
  | a :: l => .lst 1 (ints (a :: l))
theorem c_withoutS (last : Int) (hs : List Rg) (step : Int) (lv : List Int) (ms : List Mk) (tr : D) (htr : Pu tr) (S : List Int) (hm : ms.length ≤ 1000) (hS : S.length ≤ 1000) : PureF Try.prog p105.ix [.ag [.i .i64 last, .lst 2 (rows rgD hs), .i .i64 step, .lst 1 (ints lv), .lst 4 (rows mkD ms), tr], setD S] (.lst 4 (rows mkD (woR ms S))) := by
  cases S with
  | nil => exact c_without last hs step lv ms tr htr [] hm .ns trivial fun j => c_ContainsN (j : Int)
  | cons a l => exact c_without last hs step lv ms tr htr (a :: l) hm (.lst 1 (ints (a :: l))) (pu_ints _) fun j => c_Contains (a :: l) (j : Int) hS
end Go.Ev
