import Derived.Test.YtkbgaadfednjpaaGreatDoorEvUSq
import Derived.Test.YtkbgaadfednjpaaGreatDoorEvUIt
set_option linter.all false
set_option maxHeartbeats 8000000
noncomputable section
namespace Go.Ev
section
variable {lg : Option (T Bool)}
def MN (lg : Option (T Bool)) (id : Pos) (k : Option (T Bool) -> Prop) : Prop :=
 Option.casesOn lg (k none) fun L => Option.casesOn (L.get id) (T.setK id false L fun L => k (some L)) fun _ => k (some L)
def MQ (lg : Option (T Bool)) (id : Pos) (k : Option (T Bool) -> Prop) : Prop :=
 Option.casesOn lg (k none) fun L => T.setK id true L fun L => k (some L)
theorem Ah {id : Pos} {k : Option (T Bool) -> Prop} (h : MN lg id k) : ∃ l, (iY lg id = fun j => j l) /\ k l := by
 cases lg with
 | none => exact ⟨none, rfl, h⟩
 | some L =>
   change Option.rec _ _ (L.get id) at h
   cases hg : L.get id with
   | none =>
     rw [hg] at h
     change T.setK id false L _ at h
     rw [T.setK_eq] at h
     exact ⟨some (T.set id false L), funext fun j => by simp only [iY, hg, T.setK_eq], h⟩
   | some b => rw [hg] at h; exact ⟨some L, funext fun j => by simp only [iY, hg], h⟩
theorem AD {id : Pos} {k : Option (T Bool) -> Prop} (h : MQ lg id k) : ∃ l, (tK lg id = fun j => j l) /\ k l := by
 cases lg with
 | none => exact ⟨none, rfl, h⟩
 | some L =>
   change T.setK id true L _ at h
   rw [T.setK_eq] at h
   exact ⟨_, funext fun j => by show T.setK id true L _ = _; rw [T.setK_eq], h⟩
end
theorem wSt.ok {o : Option X} {Z : X} {K : X -> Prop} (h : o = some Z) (k : K Z) : wSt o K := by
 subst h
 exact k
section
variable {sl : T D} {ob : T C} {nx : Pos} {lg : Option (T Bool)} {K : X -> Prop}
theorem wSt.fad {d id : Pos} {off st k : Nat} {x : RX} (hx : bX sl x = some (.pt id off st)) (h : fV sl ob nx lg d K (.pt id (off + k) st)) : wSt (step (.fad d x k) sl ob nx lg) K := by
 obtain ⟨h2, h3⟩ := bR h
 refine wSt.ok ?_ h3
 show tN d x k sl ob nx lg = _
 unfold tN
 rw [hx]
 simp only [bP]
 exact h2
theorem wSt.ld1 {d id : Pos} {off st lo cur : Nat} {ro : Bool} {cs : List Cell} {v : D} {x : RX} (hx : bX sl x = some (.pt id off st)) (ho : ob.get id = some (.cells ro cs cur)) (hc : cs[off]? = some (.o v lo)) (hl : lo <= st) (h : MN lg id fun lg => fV sl ob nx lg d K v) : wSt (step (.ld1 d x) sl ob nx lg) K := by
 obtain ⟨l1, e1, h⟩ := Ah h
 obtain ⟨h2, h3⟩ := bR h
 refine wSt.ok ?_ h3
 show uN d x sl ob nx lg = _
 unfold uN
 rw [hx]
 simp only [ho, eS, hc]
 show (bif Nat.ble lo st then _ else none) = _
 rw [Nat.ble_eq_true_of_le hl, cond_true, e1]
 exact h2
theorem sS {β : Type} (st : Nat) (mk : D -> Cell) (v : D) : ∀ (off : Nat) (cs : List Cell) (f : List Cell -> Option β) (d : D) (lo : Nat), cs[off]? = some (.o d lo) -> lo <= st -> fW st mk [v] off cs f = f (cs.set off (mk v))
 | 0, [], f, d, lo, h, _ => by simp at h
 | 0, c :: cs, f, d, lo, h, hl => by
   simp at h
   subst h
   show (bif Nat.ble lo st then f (mk v :: cs) else none) = _
   rw [Nat.ble_eq_true_of_le hl]
   rfl
 | off + 1, [], f, d, lo, h, _ => by simp at h
 | off + 1, c :: cs, f, d, lo, h, hl => by
   show fW st mk [v] off cs (fun l => f (c :: l)) = _
   rw [sS st mk v off cs _ d lo (by simpa using h) hl]
   rfl
theorem wSt.st1 {id : Pos} {off st lo cur : Nat} {cs : List Cell} {v0 : D} {k : IntKind} {n : Int} {x y : RX} (hx : bX sl x = some (.pt id off st)) (hy : bX sl y = some (.i k n)) (ho : ob.get id = some (.cells false cs cur)) (hcur : cur = st + 1) (hc : cs[off]? = some (.o v0 lo)) (hl : lo <= st) (h : MQ lg id fun lg => T.setK id (.cells false (cs.set off (.o (.i k n) st)) cur) ob fun ob => K ⟨sl, ob, nx, lg⟩) : wSt (step (.st x y 1) sl ob nx lg) K := by
 obtain ⟨l1, e1, h⟩ := AD h
 rw [T.setK_eq] at h
 refine wSt.ok ?_ h
 show CS x y 1 sl ob nx lg = _
 unfold CS
 rw [hx, hy]
 subst hcur
 have hb : Nat.beq (Nat.succ st) (st + 1) = true := Nat.beq_refl _
 have hcd : oZ (.i k n) = some [.i k n] := rfl
 simp only [ho, hcd]
 show (bif Nat.beq 1 1 then (bif Nat.beq (Nat.succ st) (st + 1) then _ else _) else none) = _
 rw [hb]
 show fW st (fun d => Cell.o d st) [D.i k n] off cs _ = _
 rw [sS st _ _ off cs _ v0 lo hc hl]
 unfold pL
 rw [e1]
 show (T.setK id _ ob fun ob => some ⟨sl, ob, nx, l1⟩ : Option X) = _
 rw [T.setK_eq]
end
structure Bh where
  last : Int
  rws : Int
  pls : Int
  rch : Int
  face : List Int
  sun : List Int
  winds : List (List Int)
  brk : List (Int × Int)
  nts : List (Int × Int)
def bB (p : Int × Int) : List D := [.i .i64 p.1, .i .i64 p.2]
def bZ (w : List Int) : List D := [.lst 1 (ints w)]
theorem aG (l : List (Int × Int)) : dP (aC bB l) := iI (fun _ => by simp [bB, aR, Pu]) l
theorem aF (l : List (List Int)) : dP (aC bZ l) := iI (fun _ => by simp [bZ, aR, Pu, aB]) l
def dS (b : Bh) : List D := [.i .i64 b.last, .i .i64 b.rws, .i .i64 b.pls, .i .i64 b.rch, .lst 1 (ints b.face), .lst 1 (ints b.sun), .lst 1 (aC bZ b.winds), .lst 2 (aC bB b.brk), .lst 2 (aC bB b.nts)]
theorem aQ (b : Bh) : aR (dS b) := by simp [dS, aR, Pu, aB, aF, aG]
def hJ (n : Int) : Bool := kB n 0 3
def vW (n : Int) : Bool := kB n (-1) 3
def zX (w : List Int) : Bool := decide (∀ i, i < w.length → 1 ≤ i → w.getD (i - 1) 0 < w.getD i 0)
def mF (w : List Int) : Bool := zX w && (decide (0 < w.length) && w.all hJ)
def eG (b : Bh) (p : Int × Int) : Bool := kB p.1 0 (b.rws - 1) && kB p.2 0 (b.pls - 1)
def hU (b : Bh) (p : Int × Int) : Bool := kB p.1 0 b.last && hJ p.2
def pD (b : Bh) (l : List Int) : Bool := decide ((l.length : Int) = b.rws) && l.all hJ
def GA (b : Bh) : Bool := decide (4 < b.last ∨ 3 < b.rws ∨ 5 < b.pls ∨ 4 < b.brk.length ∨ 5 < b.nts.length)
def iA (b : Bh) : Bool := kB b.last 0 4 && (kB b.rws 1 3 && (kB b.pls 1 5 && (kB b.rch 0 4 && (pD b b.face && (decide ((b.sun.length : Int) = b.last + 1) && (b.sun.all vW && (decide ((b.winds.length : Int) = b.last + 1) && (b.winds.all mF && (b.brk.all (eG b) && b.nts.all (hU b))))))))))
def aV (b : Bh) : Int := if GA b = true then 3 else if iA b = true then 0 else 1
def Ge (h f : Int) (n : Int × Int) : Bool := decide (n.1 ≠ h ∨ n.2 = f)
def aK (b : Bh) (h : Nat) : List Int := (b.winds.getD h []).filter fun f => b.nts.all (Ge h f)
def De : List (List Int) → List (List Int)
  | [] => [[]]
  | w :: ws => w.flatMap fun a => (De ws).map fun t => a :: t
theorem wS : ∀ {ws : List (List Int)} {t : List Int}, t ∈ De ws ↔ t.length = ws.length ∧ ∀ i, i < ws.length → t.getD i 0 ∈ ws.getD i []
  | [], t => by simp [De]
  | w :: ws, t => by
    unfold De
    rw [List.mem_flatMap]
    constructor
    · rintro ⟨a, ha, ht⟩
      obtain ⟨s, hs, rfl⟩ := List.mem_map.1 ht
      obtain ⟨h1, h2⟩ := wS.1 hs
      refine ⟨by simp [h1], fun i hi => ?_⟩
      cases i with
      | zero => exact ha
      | succ i => exact h2 i (by simpa using hi)
    · rintro ⟨h1, h2⟩
      cases t with
      | nil => simp at h1
      | cons a s =>
        refine ⟨a, h2 0 (by simp), List.mem_map.2 ⟨s, wS.2 ⟨by simpa using h1, fun i hi => h2 (i + 1) (by simpa using hi)⟩, rfl⟩⟩
def iD (b : Bh) : List (List Int) := (List.range (b.last + 1).toNat).map (aK b)
def Gt (b : Bh) : List (List Int) := De (iD b)
def IsMn (l : List Int) (m : Int) : Prop := m ∈ l ∧ ∀ x ∈ l, m ≤ x
def IsMx (l : List Int) (m : Int) : Prop := m ∈ l ∧ ∀ x ∈ l, x ≤ m
theorem IsMn.uniq {l : List Int} {a b : Int} (h : IsMn l a) (k : IsMn l b) : a = b := by
  have := h.2 b k.1; have := k.2 a h.1; omega
theorem IsMx.uniq {l : List Int} {a b : Int} (h : IsMx l a) (k : IsMx l b) : a = b := by
  have := h.2 b k.1; have := k.2 a h.1; omega
def mJ (F : Nat → Int → Int) : Nat → List Int → Int
  | _, [] => 0
  | h, a :: t => F h a + mJ F (h + 1) t
def oR (G : Nat → Int) : Nat → Nat → Int
  | _, 0 => 0
  | h, n + 1 => G h + oR G (h + 1) n
theorem Bk (F : Nat → Int → Int) (G : Nat → Int) : ∀ (ws : List (List Int)) (h : Nat), (∀ i, i < ws.length → IsMn ((ws.getD i []).map (F (h + i))) (G (h + i))) → IsMn ((De ws).map (mJ F h)) (oR G h ws.length)
  | [], h, _ => by simp [De, mJ, oR, IsMn]
  | w :: ws, h, H => by
    have h0 := H 0 (by simp)
    have ih := Bk F G ws (h + 1) fun i hi => by
      have := H (i + 1) (by simpa using hi)
      rw [show h + 1 + i = h + (i + 1) by omega]
      exact this
    have h0 : IsMn (w.map (F h)) (G h) := h0
    obtain ⟨a, ha, ea⟩ := List.mem_map.1 h0.1
    obtain ⟨t, ht, et⟩ := List.mem_map.1 ih.1
    constructor
    · refine List.mem_map.2 ⟨a :: t, ?_, by show F h a + mJ F (h + 1) t = G h + oR G (h + 1) ws.length; rw [ea, et]⟩
      unfold De
      exact List.mem_flatMap.2 ⟨a, ha, List.mem_map.2 ⟨t, ht, rfl⟩⟩
    · intro x hx
      obtain ⟨u, hu, rfl⟩ := List.mem_map.1 hx
      unfold De at hu
      obtain ⟨c, hc, hu⟩ := List.mem_flatMap.1 hu
      obtain ⟨s, hs, rfl⟩ := List.mem_map.1 hu
      have p1 := h0.2 _ (List.mem_map.2 ⟨c, hc, rfl⟩)
      have p2 := ih.2 _ (List.mem_map.2 ⟨s, hs, rfl⟩)
      show G h + oR G (h + 1) ws.length ≤ F h c + mJ F (h + 1) s
      omega
theorem AH (F : Nat → Int → Int) (G : Nat → Int) : ∀ (ws : List (List Int)) (h : Nat), (∀ i, i < ws.length → IsMx ((ws.getD i []).map (F (h + i))) (G (h + i))) → IsMx ((De ws).map (mJ F h)) (oR G h ws.length)
  | [], h, _ => by simp [De, mJ, oR, IsMx]
  | w :: ws, h, H => by
    have h0 := H 0 (by simp)
    have ih := AH F G ws (h + 1) fun i hi => by
      have := H (i + 1) (by simpa using hi)
      rw [show h + 1 + i = h + (i + 1) by omega]
      exact this
    have h0 : IsMx (w.map (F h)) (G h) := h0
    obtain ⟨a, ha, ea⟩ := List.mem_map.1 h0.1
    obtain ⟨t, ht, et⟩ := List.mem_map.1 ih.1
    constructor
    · refine List.mem_map.2 ⟨a :: t, ?_, by show F h a + mJ F (h + 1) t = G h + oR G (h + 1) ws.length; rw [ea, et]⟩
      unfold De
      exact List.mem_flatMap.2 ⟨a, ha, List.mem_map.2 ⟨t, ht, rfl⟩⟩
    · intro x hx
      obtain ⟨u, hu, rfl⟩ := List.mem_map.1 hx
      unfold De at hu
      obtain ⟨c, hc, hu⟩ := List.mem_flatMap.1 hu
      obtain ⟨s, hs, rfl⟩ := List.mem_map.1 hu
      have p1 := h0.2 _ (List.mem_map.2 ⟨c, hc, rfl⟩)
      have p2 := ih.2 _ (List.mem_map.2 ⟨s, hs, rfl⟩)
      show F h c + mJ F (h + 1) s ≤ G h + oR G (h + 1) ws.length
      omega
def Cy : Int → Int
  | .ofNat 0 => -1
  | .ofNat 2 => 1
  | _ => 0
def Dp : Int → Int
  | .ofNat 1 => 1
  | .ofNat 3 => -1
  | _ => 0
end Go.Ev
end
