import Derived.Test.YtpemagogcagipaaEvMA
set_option linter.all false
namespace Go.Ev
open Go.Proofs
set_option maxRecDepth 100000
def th3 : Pos := .i .h
def sl3 : List (List Int) → D
  | [] => .ns
  | _ :: s => .sl th3 0 (s.length + 1) s.length 1
def nx3 : List (List Int) → Pos
  | [] => .o .h
  | _ :: _ => .o (.o .h)
def allN (hs : List Rg) : List (List Int) := (List.range (manyR hs).toNat).map fun n : Nat => nthR hs (n : Int)
def listsR (hs : List Rg) (step : Int) : List (List Int) := (allN hs).filter (nearB step)
theorem allN_length (hs : List Rg) : (allN hs).length = (manyR hs).toNat := by simp [allN]
theorem allN_at {hs : List Rg} {j : Nat} (h : j < (manyR hs).toNat) : (allN hs).getD j [] = nthR hs (j : Int) := by
  simp [allN, List.getD, h]
theorem nthR_hts : ∀ (hs : List Rg) (n : Int), Vr hs → 0 ≤ n → Hts (nthR hs n)
  | [], n, _, _ => fun x h => by simp [nthR] at h
  | r :: hs, n, hv, h0 => fun x h => by
    have hz := hv.sz (r := r) (by simp)
    have hr := hv r (by simp)
    have m1 := Int.tmod_nonneg (szR r) h0
    have m2 := Int.tmod_lt_of_pos n (show 0 < szR r by omega)
    rcases List.mem_cons.1 h with h | h
    · subst h; unfold szR at *; omega
    · exact nthR_hts hs _ (fun y hy => hv y (by simp [hy])) (quo_le h0 (Int.le_refl _) (show 0 < szR r by omega)).1 x h
section
variable (last : Int) (hs : List Rg) (step : Int) (lv : List Int) (ms : List Mk)
def tabC : C := .cells false [.o (.i .i64 last) 0, .o (.lst 2 (rows rgD hs)) 0, .o (.i .i64 step) 0, .o (.lst 1 (ints lv)) 0, .o (.lst 4 (rows mkD ms)) 0] 1
theorem tabC_kp (n : Nat) : KpC n (tabC last hs step lv ms) := by
  refine KpL.all ?_
  simp [tabC, KpL, Kp, Cell.d, Pu, pu_ints, pu_rg, pu_mk]
theorem tabC_sh {B : Pos → Prop} {ob : T C} : ShC B ob (tabC last hs step lv ms) (tabC last hs step lv ms) := ShC.same (ShC.cn (.pu trivial) (ShC.cn (.pu (pu_rg _)) (ShC.cn (.pu trivial) (ShC.cn (.pu (pu_ints _)) (ShC.cn (.pu (pu_mk _)) ShC.nl)))))
end
end Go.Ev

namespace Go.Ev
open Go.Proofs
set_option maxRecDepth 100000
def topR (l : List Int) (fr to : Int) : Int := ((l.drop fr.toNat).take (to + 1 - fr).toNat).foldl max (l.getD fr.toNat 0)
def rightR (t : List Int) (m : Mk) : Bool := inB (topR t m.fr m.to) m.lo m.hi
def inAt (hs : List Rg) (t : List Int) (i : Nat) : Bool := inB (t.getD i 0) (hs.getD i default).lo (hs.getD i default).hi
def listedR (hs : List Rg) (step : Int) (t : List Int) : Bool := (List.range (min t.length hs.length)).all (inAt hs t) && (decide (t.length = hs.length) && nearB step t)
def truthR (hs : List Rg) (step : Int) (ms : List Mk) (t : List Int) : Bool := listedR hs step t && ms.all (rightR t)
end Go.Ev

namespace Go.Ev
open Go.Proofs
set_option maxRecDepth 100000
def truthsR (hs : List Rg) (step : Int) (ms : List Mk) : List (List Int) := (listsR hs step).filter (truthR hs step ms)
section
variable (last : Int) (hs : List Rg) (step : Int) (lv : List Int) (ms : List Mk)
end
end Go.Ev
