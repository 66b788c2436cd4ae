import Derived.Test.YtkbgaadfednjpaaGreatDoorEvUSq
import Derived.Test.YtkbgaadfednjpaaGreatDoorEvUIt
set_option linter.all false
set_option maxHeartbeats 8000000
noncomputable section
namespace Go.Ev
section
variable {lg : Option (T Bool)}
def KU (lg : Option (T Bool)) (id : Pos) (k : Option (T Bool) -> Prop) : Prop :=
 Option.casesOn lg (k none) fun L => Option.casesOn (L.get id) (T.setK id false L fun L => k (some L)) fun _ => k (some L)
def KX (lg : Option (T Bool)) (id : Pos) (k : Option (T Bool) -> Prop) : Prop :=
 Option.casesOn lg (k none) fun L => T.setK id true L fun L => k (some L)
theorem xJ {id : Pos} {k : Option (T Bool) -> Prop} (h : KU lg id k) : ∃ l, (gJ lg id = fun j => j l) /\ k l := by
 cases lg with
 | none => exact ⟨none, rfl, h⟩
 | some L =>
   change Option.rec _ _ (L.get id) at h
   cases hg : L.get id with
   | none =>
     rw [hg] at h
     change T.setK id false L _ at h
     rw [T.setK_eq] at h
     exact ⟨some (T.set id false L), funext fun j => by simp only [gJ, hg, T.setK_eq], h⟩
   | some b => rw [hg] at h; exact ⟨some L, funext fun j => by simp only [gJ, hg], h⟩
theorem yF {id : Pos} {k : Option (T Bool) -> Prop} (h : KX lg id k) : ∃ l, (rA lg id = fun j => j l) /\ k l := by
 cases lg with
 | none => exact ⟨none, rfl, h⟩
 | some L =>
   change T.setK id true L _ at h
   rw [T.setK_eq] at h
   exact ⟨_, funext fun j => by show T.setK id true L _ = _; rw [T.setK_eq], h⟩
end
theorem wSt.ok {o : Option X} {Z : X} {K : X -> Prop} (h : o = some Z) (k : K Z) : wSt o K := by
 subst h
 exact k
section
variable {sl : T D} {ob : T C} {nx : Pos} {lg : Option (T Bool)} {K : X -> Prop}
theorem wSt.fad {d id : Pos} {off st k : Nat} {x : RX} (hx : bE sl x = some (.pt id off st)) (h : eF sl ob nx lg d K (.pt id (off + k) st)) : wSt (step (.fad d x k) sl ob nx lg) K := by
 obtain ⟨h2, h3⟩ := aY h
 refine wSt.ok ?_ h3
 show rC d x k sl ob nx lg = _
 unfold rC
 rw [hx]
 simp only [bA]
 exact h2
theorem wSt.ld1 {d id : Pos} {off st lo cur : Nat} {ro : Bool} {cs : List Cell} {v : D} {x : RX} (hx : bE sl x = some (.pt id off st)) (ho : ob.get id = some (.cells ro cs cur)) (hc : cs[off]? = some (.o v lo)) (hl : lo <= st) (h : KU lg id fun lg => eF sl ob nx lg d K v) : wSt (step (.ld1 d x) sl ob nx lg) K := by
 obtain ⟨l1, e1, h⟩ := xJ h
 obtain ⟨h2, h3⟩ := aY h
 refine wSt.ok ?_ h3
 show rY d x sl ob nx lg = _
 unfold rY
 rw [hx]
 simp only [ho, dL, hc]
 show (bif Nat.ble lo st then _ else none) = _
 rw [Nat.ble_eq_true_of_le hl, cond_true, e1]
 exact h2
theorem qJ {β : Type} (st : Nat) (mk : D -> Cell) (v : D) : ∀ (off : Nat) (cs : List Cell) (f : List Cell -> Option β) (d : D) (lo : Nat), cs[off]? = some (.o d lo) -> lo <= st -> eR st mk [v] off cs f = f (cs.set off (mk v))
 | 0, [], f, d, lo, h, _ => by simp at h
 | 0, c :: cs, f, d, lo, h, hl => by
   simp at h
   subst h
   show (bif Nat.ble lo st then f (mk v :: cs) else none) = _
   rw [Nat.ble_eq_true_of_le hl]
   rfl
 | off + 1, [], f, d, lo, h, _ => by simp at h
 | off + 1, c :: cs, f, d, lo, h, hl => by
   show eR st mk [v] off cs (fun l => f (c :: l)) = _
   rw [qJ st mk v off cs _ d lo (by simpa using h) hl]
   rfl
theorem wSt.st1 {id : Pos} {off st lo cur : Nat} {cs : List Cell} {v0 : D} {k : IntKind} {n : Int} {x y : RX} (hx : bE sl x = some (.pt id off st)) (hy : bE sl y = some (.i k n)) (ho : ob.get id = some (.cells false cs cur)) (hcur : cur = st + 1) (hc : cs[off]? = some (.o v0 lo)) (hl : lo <= st) (h : KX lg id fun lg => T.setK id (.cells false (cs.set off (.o (.i k n) st)) cur) ob fun ob => K ⟨sl, ob, nx, lg⟩) : wSt (step (.st x y 1) sl ob nx lg) K := by
 obtain ⟨l1, e1, h⟩ := yF h
 rw [T.setK_eq] at h
 refine wSt.ok ?_ h
 show Bc x y 1 sl ob nx lg = _
 unfold Bc
 rw [hx, hy]
 subst hcur
 have hb : Nat.beq (Nat.succ st) (st + 1) = true := Nat.beq_refl _
 have hcd : nG (.i k n) = some [.i k n] := rfl
 simp only [ho, hcd]
 show (bif Nat.beq 1 1 then (bif Nat.beq (Nat.succ st) (st + 1) then _ else _) else none) = _
 rw [hb]
 show eR st (fun d => Cell.o d st) [D.i k n] off cs _ = _
 rw [qJ st _ _ off cs _ v0 lo hc hl]
 unfold nR
 rw [e1]
 show (T.setK id _ ob fun ob => some ⟨sl, ob, nx, l1⟩ : Option X) = _
 rw [T.setK_eq]
end
structure Bh where
  last : Int
  rws : Int
  pls : Int
  rch : Int
  face : List Int
  sun : List Int
  winds : List (List Int)
  brk : List (Int × Int)
  nts : List (Int × Int)
def cV (p : Int × Int) : List D := [.i .i64 p.1, .i .i64 p.2]
def fI (w : List Int) : List D := [.lst 1 (ints w)]
theorem aH (l : List (Int × Int)) : dE (aJ cV l) := eT (fun _ => by simp [cV, aN, Pu]) l
theorem aF (l : List (List Int)) : dE (aJ fI l) := eT (fun _ => by simp [fI, aN, Pu, aB]) l
def dV (b : Bh) : List D := [.i .i64 b.last, .i .i64 b.rws, .i .i64 b.pls, .i .i64 b.rch, .lst 1 (ints b.face), .lst 1 (ints b.sun), .lst 1 (aJ fI b.winds), .lst 2 (aJ cV b.brk), .lst 2 (aJ cV b.nts)]
theorem aO (b : Bh) : aN (dV b) := by simp [dV, aN, Pu, aB, aF, aH]
def hY (n : Int) : Bool := iR n 0 3
def tA (n : Int) : Bool := iR n (-1) 3
def wY (w : List Int) : Bool := decide (∀ i, i < w.length → 1 ≤ i → w.getD (i - 1) 0 < w.getD i 0)
def kU (w : List Int) : Bool := wY w && (decide (0 < w.length) && w.all hY)
def eK (b : Bh) (p : Int × Int) : Bool := iR p.1 0 (b.rws - 1) && iR p.2 0 (b.pls - 1)
def gO (b : Bh) (p : Int × Int) : Bool := iR p.1 0 b.last && hY p.2
def vK (b : Bh) (l : List Int) : Bool := decide ((l.length : Int) = b.rws) && l.all hY
def AP (b : Bh) : Bool := decide (4 < b.last ∨ 3 < b.rws ∨ 5 < b.pls ∨ 4 < b.brk.length ∨ 5 < b.nts.length)
def fV (b : Bh) : Bool := iR b.last 0 4 && (iR b.rws 1 3 && (iR b.pls 1 5 && (iR b.rch 0 4 && (vK b b.face && (decide ((b.sun.length : Int) = b.last + 1) && (b.sun.all tA && (decide ((b.winds.length : Int) = b.last + 1) && (b.winds.all kU && (b.brk.all (eK b) && b.nts.all (gO b))))))))))
def bG (b : Bh) : Int := if AP b = true then 3 else if fV b = true then 0 else 1
def ES (h f : Int) (n : Int × Int) : Bool := decide (n.1 ≠ h ∨ n.2 = f)
def nE (b : Bh) (h : Nat) : List Int := (b.winds.getD h []).filter fun f => b.nts.all (ES h f)
def IsMn (l : List Int) (m : Int) : Prop := m ∈ l ∧ ∀ x ∈ l, m ≤ x
def IsMx (l : List Int) (m : Int) : Prop := m ∈ l ∧ ∀ x ∈ l, x ≤ m
def AC : Int → Int
  | .ofNat 0 => -1
  | .ofNat 2 => 1
  | _ => 0
def BF : Int → Int
  | .ofNat 1 => 1
  | .ofNat 3 => -1
  | _ => 0
end Go.Ev
end
