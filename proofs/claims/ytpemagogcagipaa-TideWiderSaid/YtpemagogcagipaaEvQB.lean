import Derived.Test.YtpemagogcagipaaEvQA
set_option linter.all false
namespace Go.Ev
open Go.Proofs
set_option maxRecDepth 100000
def befR : List Int → List Int → Bool
  | [], [] => false
  | [], _ :: _ => true
  | _ :: _, [] => false
  | a :: A, b :: B => if a = b then befR A B else decide (a < b)
def shoR (A B : List Int) : Bool := decide (A.length < B.length) || (decide (A.length = B.length) && befR A B)
end Go.Ev

namespace Go.Ev
open Go.Proofs
set_option maxRecDepth 100000
def bitJ (b j : Nat) : List Int := ((List.range j).filter fun p => b.testBit p).map fun p : Nat => (p : Int)
def bitL (b : Nat) : List Int := bitJ b 10
end Go.Ev

namespace Go.Ev
open Go.Proofs
set_option maxRecDepth 100000
def levF (A : List Nat) (m : Nat) (best : List Int) (b : Nat) : List Int := if (shoR (bitL b) best && canB A (2 ^ m - 1 - b)) = true then bitL b else best
def levJ (A : List Nat) (m n : Nat) : List Int := (List.range n).foldl (levF A m) (bitL (2 ^ m - 1))
def levR (A : List Nat) (m : Nat) : List Int := levJ A m (2 ^ m)
theorem levJ_succ (A : List Nat) (m n : Nat) : levJ A m (n + 1) = levF A m (levJ A m n) n := by
  unfold levJ
  rw [List.range_succ, List.foldl_append]
  rfl
end Go.Ev

namespace Go.Ev
open Go.Proofs
set_option maxRecDepth 100000
theorem c_sets (en many : Int) : PureF Try.prog p104.ix [.i .i64 en, .i .i64 many] (.fn p108 [] [.pl [.i .i64 many] 0, .pl [.i .i64 en] 0]) := by
  refine PureF.run fn103 (by simp) (by simp [PuL, PuE, Pu]) ?_; conv => whnf
  repeat' first | ((first | (with_reducible first | apply WB.tt | apply WB.ff) | apply Rn.seq | apply Rn.reg | apply Rn.drw | apply Rn.blk | apply Rn.skip | apply Rn.ret | apply Rn.exit | apply Rn.cond rfl | refine i64_ (by omega) (by omega) ?_ | refine ne0_ (by omega) ?_ | refine WIx.intsN (by omega) ?_ | refine WIx.rowsN (by omega) ?_) <;> conv => whnf)
  refine Fin.t (.inr rfl) rfl ?_
  exact .fn .nil (.cons (Frz.ptr rfl rfl (by simp) (by simp [PuL, Pu])) (.cons (Frz.ptr rfl rfl (by simp) (by simp [PuL, Pu])) .nil))
theorem c_CloneN : PureF Try.prog p110.ix [.ns] .ns := by
  refine PureF.run fn109 (by simp) (by simp [PuL, PuE, Pu]) ?_; conv => whnf
  repeat' first | ((first | (with_reducible first | apply WB.tt | apply WB.ff) | apply Rn.seq | apply Rn.reg | apply Rn.drw | apply Rn.blk | apply Rn.skip | apply Rn.ret | apply Rn.exit | apply Rn.cond rfl | refine i64_ (by omega) (by omega) ?_ | refine ne0_ (by omega) ?_ | refine WIx.intsN (by omega) ?_ | refine WIx.rowsN (by omega) ?_) <;> conv => whnf)
  exact Fin.t (.inr rfl) rfl (.pu trivial)
end Go.Ev
