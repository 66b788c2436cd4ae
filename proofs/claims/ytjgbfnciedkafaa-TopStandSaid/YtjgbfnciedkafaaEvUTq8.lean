import Derived.Test.YtjgbfnciedkafaaEvUTq7
import Derived.Test.YtjgbfnciedkafaaEvUNm
set_option linter.all false
set_option maxHeartbeats 8000000
noncomputable section
namespace Go.Ev
open Go.Proofs
set_option maxRecDepth 1000000
def tq69 : Pos := .i (.o (.i (.o (.o (.o .h)))))
theorem lf : pR Try.prog fp 100000 tq69 = true := by kernel_rfl
set_option maxRecDepth 1000
theorem lfT : PureF Try.prog tq69.ix [] (.b true) := fun ob nx lg => rY Bh lf ob nx lg
theorem Vu (f : Nat -> Int) : ∀ j, (Ap f (j + 1)).toNat = (Ap f j).toNat + (if f j < 0 then 0 else 1) := fun j => by
 have h := (zI f j).1
 show (Ap f j + jC (f j)).toNat = _
 unfold jC
 by_cases hf : f j < 0
 ·rw [if_neg (by omega), if_pos hf]; omega
 ·rw [if_pos (by omega), if_neg hf]; omega
theorem Gw {V : List Int} {f : Nat -> Int} {n S : Int} (hn : 1 <= n /\ n <= 4) (hl : V.length = n.toNat) (hv : ∀ j, j < n.toNat -> (1 <= V.getD j 0 /\ V.getD j 0 <= 3) /\ (V.getD j 0 = 1 -> decide (0 <= f j) = true) /\ (V.getD j 0 = 2 -> decide (0 <= f j) = false)) (hS : Ap f n.toNat = S) :
 ∃ P Q, eB P /\ eB Q /\ PureF Try.prog p71.ix [.lst 1 (ints V), .i .i64 (n - S)] (.ag [.lst 1 P, .lst 3 Q, .i .i64 0, .i .i64 0]) /\ PureF Try.prog p73.ix [.ag [.lst 1 P, .lst 3 Q, .i .i64 0, .i .i64 0]] (.ag [.lst 1 P, .lst 3 Q, .i .i64 0, .i .i64 0]) /\
   PureF Try.prog p72.ix [.ag [.lst 1 P, .lst 3 Q, .i .i64 0, .i .i64 0], .i .i64 0, .i .i64 (n - 1)] (.tp [.ag [.i .i64 (n - S), .i .i64 (n - S)], .i .i64 0]) /\
   PureF Try.prog p74.ix [.ag [.lst 1 P, .lst 3 Q, .i .i64 0, .i .i64 0], .lst 1 (ints (xS f n.toNat n.toNat))] (.b true) := by
 have hm := JT (V := V) (f := f) (n := n.toNat) fun j hj => by
  obtain ⟨a, b, c⟩ := hv j hj
  exact ⟨a, (fun e => by have := of_decide_eq_true (b e); omega), fun e => by have := of_decide_eq_false (c e); omega⟩
 have hlen := LO V f n.toNat
 have hs := Nj V f (fun j => (Ap f j).toNat) rfl (Vu f) n.toNat
 have hb := (zI f n.toNat).1
 have e1 : Int.ofNat (yB (xX V f n.toNat)) = n - S := by
  show ((yB (xX V f n.toNat) : Nat) : Int) = _
  have hs : yB (xX V f n.toNat) + (Ap f n.toNat).toNat = n.toNat := hs
  omega
 have e2 : Int.ofNat ((xX V f n.toNat).length - 1) = n - 1 := by
  rw [hlen]
  show ((n.toNat - 1 : Nat) : Int) = _
  omega
 obtain ⟨k1, k2, k3, k4⟩ := Rf (ps := xX V f n.toNat) (by omega) (by omega) hm
 rw [SW hl fun j hj => by have := (hv j hj).1; omega, e1] at k1
 rw [e2, e1] at k3
 rw [RD] at k4
 refine ⟨_, _, aJ _, ?_, k1, k2, k3, k4⟩
 simp [eB, aO, Pu]
end Go.Ev
end
