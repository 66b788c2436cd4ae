import Derived.Test.YtkbgaadfednjpaaGreatDoorEvUSq
import Derived.Test.YtkbgaadfednjpaaGreatDoorEvUIt
set_option linter.all false
set_option maxHeartbeats 8000000
noncomputable section
namespace Go.Ev
structure Bh where
  last : Int
  rws : Int
  pls : Int
  rch : Int
  face : List Int
  sun : List Int
  winds : List (List Int)
  brk : List (Int × Int)
  nts : List (Int × Int)
def cX (p : Int × Int) : List D := [.i .i64 p.1, .i .i64 p.2]
def iP (w : List Int) : List D := [.lst 1 (ints w)]
theorem aF (l : List (Int × Int)) : cG (aO cX l) := fP (fun _ => by simp [cX, aN, Pu]) l
theorem aG (l : List (List Int)) : cG (aO iP l) := fP (fun _ => by simp [iP, aN, Pu, aC]) l
def eY (b : Bh) : List D := [.i .i64 b.last, .i .i64 b.rws, .i .i64 b.pls, .i .i64 b.rch, .lst 1 (ints b.face), .lst 1 (ints b.sun), .lst 1 (aO iP b.winds), .lst 2 (aO cX b.brk), .lst 2 (aO cX b.nts)]
theorem aM (b : Bh) : aN (eY b) := by simp [eY, aN, Pu, aC, aG, aF]
def jD (n : Int) : Bool := jA n 0 3
def uP (n : Int) : Bool := jA n (-1) 3
def yC (w : List Int) : Bool := decide (∀ i, i < w.length → 1 ≤ i → w.getD (i - 1) 0 < w.getD i 0)
def kZ (w : List Int) : Bool := yC w && (decide (0 < w.length) && w.all jD)
def kS (b : Bh) (p : Int × Int) : Bool := jA p.1 0 (b.rws - 1) && jA p.2 0 (b.pls - 1)
def fJ (b : Bh) (p : Int × Int) : Bool := jA p.1 0 b.last && jD p.2
def DL (b : Bh) (l : List Int) : Bool := decide ((l.length : Int) = b.rws) && l.all jD
def Fw (b : Bh) : Bool := decide (4 < b.last ∨ 3 < b.rws ∨ 5 < b.pls ∨ 4 < b.brk.length ∨ 5 < b.nts.length)
def fW (b : Bh) : Bool := jA b.last 0 4 && (jA b.rws 1 3 && (jA b.pls 1 5 && (jA b.rch 0 4 && (DL b b.face && (decide ((b.sun.length : Int) = b.last + 1) && (b.sun.all uP && (decide ((b.winds.length : Int) = b.last + 1) && (b.winds.all kZ && (b.brk.all (kS b) && b.nts.all (fJ b))))))))))
def bD (b : Bh) : Int := if Fw b = true then 3 else if fW b = true then 0 else 1
def EV (h f : Int) (n : Int × Int) : Bool := decide (n.1 ≠ h ∨ n.2 = f)
def oA (b : Bh) (h : Nat) : List Int := (b.winds.getD h []).filter fun f => b.nts.all (EV h f)
def IsMn (l : List Int) (m : Int) : Prop := m ∈ l ∧ ∀ x ∈ l, m ≤ x
def IsMx (l : List Int) (m : Int) : Prop := m ∈ l ∧ ∀ x ∈ l, x ≤ m
end Go.Ev
end
