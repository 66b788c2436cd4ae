import Derived.Test.YtmlpgfmbhpefmaaEvKv
import Derived.Test.YtmlpgfmbhpefmaaEvBk
set_option linter.all false
namespace Go.Ev
open Go.Proofs
set_option maxRecDepth 100000
theorem WSt.eqr2n {sl : T D} {ob : T C} {nx : Pos} {K : X → Prop} {lg : Option (T Bool)} {d : Pos} {x y : RX} {a b a' b' : Int} (h1 : opd sl x = some (.ag [.i .i64 a, .i .i64 b])) (h2 : opd sl y = some (.ag [.i .i64 a', .i .i64 b'])) (w1 : wfB .i64 a = true) (w2 : wfB .i64 b = true) (w3 : wfB .i64 a' = true) (w4 : wfB .i64 b' = true) (k : wOut sl ob nx lg d K (.b (!decide (a = a' ∧ b = b')))) :
    WSt (.eqr d true [.i .i64, .i .i64] x y) ⟨sl, ob, nx, lg⟩ K := by
  obtain ⟨k1, k2⟩ := wOut_ok k
  refine ⟨_, ?_, k2⟩
  show s_eqr _ _ _ x y sl ob nx lg = _
  unfold s_eqr
  rw [h1, h2]
  have e : eqR [.i .i64, .i .i64] (.ag [.i .i64 a, .i .i64 b]) (.ag [.i .i64 a', .i .i64 b']) = some (decide (a = a' ∧ b = b')) := by
    have hk : kEq .i64 .i64 = true := rfl
    simp only [eqR, eqL, eqC, hk, w1, w2, w3, w4, Bool.and_self, cond_true, Option.some.injEq]
    simp only [eqB_eq, Bool.decide_and]
    have hb : ∀ a b : Int, (a == b) = decide (a = b) := fun a b => by by_cases h : a = b <;> simp [h]
    simp only [hb, Bool.and_true]
  simp only [e, cond_true, boolK_eq]
  exact k1
theorem fault1 {l : List Int} {cs : List Cnt} {wr off : Int} (hF : faultR l cs wr off = 0) : 0 ≤ wr ∧ wr ≤ 6 ∧ 0 ≤ off ∧ off ≤ 9 := by
  obtain ⟨f1, f2, f3, f4⟩ := fault0 hF
  rw [faultR_eq f2 f3] at hF
  split at hF
  · rename_i h
    simp only [Bool.and_eq_true, inB, decide_eq_true_iff] at h
    exact ⟨h.2.2.2.1.1, h.2.2.2.1.2, h.2.2.2.2.1, h.2.2.2.2.2⟩
  · cases hF
theorem rows_snoc (cs : List Cnt) (c : Cnt) : (rows cntD (cs ++ [c])).flatten = (rows cntD cs).flatten ++ cntD c := by simp [rows]
/-! ### Nothing -/
theorem ec_zero (t : List Int) (bk : Bool) : ec t ⟨bk, 0, 0⟩ = 0 := by
  unfold ec errR errN sumP
  cases bk <;> simp
theorem wrongR_zero {cs : List Cnt} {off : Int} (t : List Int) (bk : Bool) (h : 0 ≤ off) : wrongR (cs ++ [(⟨bk, 0, 0⟩ : Cnt)]) off t = wrongR cs off t := by
  unfold wrongR
  rw [List.all_append, List.countP_append]
  have e1 : [(⟨bk, 0, 0⟩ : Cnt)].all (fun c => decide (ec t c ≤ off)) = true := by simp [ec_zero, h]
  have e2 : [(⟨bk, 0, 0⟩ : Cnt)].countP (fun c => decide (0 < ec t c)) = 0 := by simp [ec_zero]
  rw [e1, e2, Bool.and_true, Nat.add_zero]
theorem truR_zero {l : List Int} {cs : List Cnt} {wr off : Int} (bk : Bool) (h : 0 ≤ off) : truR l (cs ++ [(⟨bk, 0, 0⟩ : Cnt)]) wr off = truR l cs wr off := by
  unfold truR
  congr 1
  funext t
  unfold fitR
  rw [wrongR_zero t bk h]
theorem leastF_zero {cs : List Cnt} {off : Int} (L : List (List Int)) (bk : Bool) (h : 0 ≤ off) : leastF (cs ++ [(⟨bk, 0, 0⟩ : Cnt)]) off L = leastF cs off L := by
  unfold leastF
  congr 1
  funext b t
  unfold bestS
  rw [wrongR_zero t bk h]
theorem yesR_zero (R : List (List Int)) (bk : Bool) : yesR R ⟨bk, 0, 0⟩ = R.length := by
  unfold yesR rAt
  simp only [ec_zero, if_true]
  induction R with
  | nil => rfl
  | cons a R ih => rw [List.map_cons, List.sum_cons, ih, List.length_cons]; push_cast; omega
end Go.Ev
