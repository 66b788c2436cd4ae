import Derived.Test.YtkbgaadfednjpaaGreatDoorEvUSq
import Derived.Test.YtkbgaadfednjpaaGreatDoorEvUIt
set_option linter.all false
set_option maxHeartbeats 8000000
noncomputable section
namespace Go.Ev
section
variable {lg : Option (T Bool)}
def LB (lg : Option (T Bool)) (id : Pos) (k : Option (T Bool) -> Prop) : Prop :=
 Option.casesOn lg (k none) fun L => Option.casesOn (L.get id) (T.setK id false L fun L => k (some L)) fun _ => k (some L)
def LE (lg : Option (T Bool)) (id : Pos) (k : Option (T Bool) -> Prop) : Prop :=
 Option.casesOn lg (k none) fun L => T.setK id true L fun L => k (some L)
theorem xE {id : Pos} {k : Option (T Bool) -> Prop} (h : LB lg id k) : ∃ l, (gX lg id = fun j => j l) /\ k l := by
 cases lg with
 | none => exact ⟨none, rfl, h⟩
 | some L =>
   change Option.rec _ _ (L.get id) at h
   cases hg : L.get id with
   | none =>
     rw [hg] at h
     change T.setK id false L _ at h
     rw [T.setK_eq] at h
     exact ⟨some (T.set id false L), funext fun j => by simp only [gX, hg, T.setK_eq], h⟩
   | some b => rw [hg] at h; exact ⟨some L, funext fun j => by simp only [gX, hg], h⟩
theorem yC {id : Pos} {k : Option (T Bool) -> Prop} (h : LE lg id k) : ∃ l, (rG lg id = fun j => j l) /\ k l := by
 cases lg with
 | none => exact ⟨none, rfl, h⟩
 | some L =>
   change T.setK id true L _ at h
   rw [T.setK_eq] at h
   exact ⟨_, funext fun j => by show T.setK id true L _ = _; rw [T.setK_eq], h⟩
end
theorem wSt.ok {o : Option X} {Z : X} {K : X -> Prop} (h : o = some Z) (k : K Z) : wSt o K := by
 subst h
 exact k
section
variable {sl : T D} {ob : T C} {nx : Pos} {lg : Option (T Bool)} {K : X -> Prop}
theorem wSt.fad {d id : Pos} {off st k : Nat} {x : RX} (hx : bG sl x = some (.pt id off st)) (h : eC sl ob nx lg d K (.pt id (off + k) st)) : wSt (step (.fad d x k) sl ob nx lg) K := by
 obtain ⟨h2, h3⟩ := bD h
 refine wSt.ok ?_ h3
 show rJ d x k sl ob nx lg = _
 unfold rJ
 rw [hx]
 simp only [bF]
 exact h2
theorem wSt.ld1 {d id : Pos} {off st lo cur : Nat} {ro : Bool} {cs : List Cell} {v : D} {x : RX} (hx : bG sl x = some (.pt id off st)) (ho : ob.get id = some (.cells ro cs cur)) (hc : cs[off]? = some (.o v lo)) (hl : lo <= st) (h : LB lg id fun lg => eC sl ob nx lg d K v) : wSt (step (.ld1 d x) sl ob nx lg) K := by
 obtain ⟨l1, e1, h⟩ := xE h
 obtain ⟨h2, h3⟩ := bD h
 refine wSt.ok ?_ h3
 show sF d x sl ob nx lg = _
 unfold sF
 rw [hx]
 simp only [ho, dI, hc]
 show (bif Nat.ble lo st then _ else none) = _
 rw [Nat.ble_eq_true_of_le hl, cond_true, e1]
 exact h2
theorem qQ {β : Type} (st : Nat) (mk : D -> Cell) (v : D) : ∀ (off : Nat) (cs : List Cell) (f : List Cell -> Option β) (d : D) (lo : Nat), cs[off]? = some (.o d lo) -> lo <= st -> eN st mk [v] off cs f = f (cs.set off (mk v))
 | 0, [], f, d, lo, h, _ => by simp at h
 | 0, c :: cs, f, d, lo, h, hl => by
   simp at h
   subst h
   show (bif Nat.ble lo st then f (mk v :: cs) else none) = _
   rw [Nat.ble_eq_true_of_le hl]
   rfl
 | off + 1, [], f, d, lo, h, _ => by simp at h
 | off + 1, c :: cs, f, d, lo, h, hl => by
   show eN st mk [v] off cs (fun l => f (c :: l)) = _
   rw [qQ st mk v off cs _ d lo (by simpa using h) hl]
   rfl
theorem wSt.st1 {id : Pos} {off st lo cur : Nat} {cs : List Cell} {v0 : D} {k : IntKind} {n : Int} {x y : RX} (hx : bG sl x = some (.pt id off st)) (hy : bG sl y = some (.i k n)) (ho : ob.get id = some (.cells false cs cur)) (hcur : cur = st + 1) (hc : cs[off]? = some (.o v0 lo)) (hl : lo <= st) (h : LE lg id fun lg => T.setK id (.cells false (cs.set off (.o (.i k n) st)) cur) ob fun ob => K ⟨sl, ob, nx, lg⟩) : wSt (step (.st x y 1) sl ob nx lg) K := by
 obtain ⟨l1, e1, h⟩ := yC h
 rw [T.setK_eq] at h
 refine wSt.ok ?_ h
 show AL x y 1 sl ob nx lg = _
 unfold AL
 rw [hx, hy]
 subst hcur
 have hb : Nat.beq (Nat.succ st) (st + 1) = true := Nat.beq_refl _
 have hcd : nK (.i k n) = some [.i k n] := rfl
 simp only [ho, hcd]
 show (bif Nat.beq 1 1 then (bif Nat.beq (Nat.succ st) (st + 1) then _ else _) else none) = _
 rw [hb]
 show eN st (fun d => Cell.o d st) [D.i k n] off cs _ = _
 rw [qQ st _ _ off cs _ v0 lo hc hl]
 unfold nU
 rw [e1]
 show (T.setK id _ ob fun ob => some ⟨sl, ob, nx, l1⟩ : Option X) = _
 rw [T.setK_eq]
end
structure Bh where
  last : Int
  rws : Int
  pls : Int
  rch : Int
  face : List Int
  sun : List Int
  winds : List (List Int)
  brk : List (Int × Int)
  nts : List (Int × Int)
def bC (p : Int × Int) : List D := [.i .i64 p.1, .i .i64 p.2]
def eO (w : List Int) : List D := [.lst 1 (ints w)]
theorem aE (l : List (Int × Int)) : cZ (aD bC l) := fK (fun _ => by simp [bC, aO, Pu]) l
theorem aG (l : List (List Int)) : cZ (aD eO l) := fK (fun _ => by simp [eO, aO, Pu, aC]) l
def dR (b : Bh) : List D := [.i .i64 b.last, .i .i64 b.rws, .i .i64 b.pls, .i .i64 b.rch, .lst 1 (ints b.face), .lst 1 (ints b.sun), .lst 1 (aD eO b.winds), .lst 2 (aD bC b.brk), .lst 2 (aD bC b.nts)]
theorem aM (b : Bh) : aO (dR b) := by simp [dR, aO, Pu, aC, aG, aE]
def iR (n : Int) : Bool := iH n 0 3
def tC (n : Int) : Bool := iH n (-1) 3
def wS (w : List Int) : Bool := decide (∀ i, i < w.length → 1 ≤ i → w.getD (i - 1) 0 < w.getD i 0)
def kT (w : List Int) : Bool := wS w && (decide (0 < w.length) && w.all iR)
def dL (b : Bh) (p : Int × Int) : Bool := iH p.1 0 (b.rws - 1) && iH p.2 0 (b.pls - 1)
def fS (b : Bh) (p : Int × Int) : Bool := iH p.1 0 b.last && iR p.2
def vH (b : Bh) (l : List Int) : Bool := decide ((l.length : Int) = b.rws) && l.all iR
def AH (b : Bh) : Bool := decide (4 < b.last ∨ 3 < b.rws ∨ 5 < b.pls ∨ 4 < b.brk.length ∨ 5 < b.nts.length)
def fV (b : Bh) : Bool := iH b.last 0 4 && (iH b.rws 1 3 && (iH b.pls 1 5 && (iH b.rch 0 4 && (vH b b.face && (decide ((b.sun.length : Int) = b.last + 1) && (b.sun.all tC && (decide ((b.winds.length : Int) = b.last + 1) && (b.winds.all kT && (b.brk.all (dL b) && b.nts.all (fS b))))))))))
def aR (b : Bh) : Int := if AH b = true then 3 else if fV b = true then 0 else 1
def DQ (h f : Int) (n : Int × Int) : Bool := decide (n.1 ≠ h ∨ n.2 = f)
def aI (b : Bh) (h : Nat) : List Int := (b.winds.getD h []).filter fun f => b.nts.all (DQ h f)
def IsMn (l : List Int) (m : Int) : Prop := m ∈ l ∧ ∀ x ∈ l, m ≤ x
def IsMx (l : List Int) (m : Int) : Prop := m ∈ l ∧ ∀ x ∈ l, x ≤ m
def Az : Int → Int
  | .ofNat 0 => -1
  | .ofNat 2 => 1
  | _ => 0
def AX : Int → Int
  | .ofNat 1 => 1
  | .ofNat 3 => -1
  | _ => 0
end Go.Ev
end
