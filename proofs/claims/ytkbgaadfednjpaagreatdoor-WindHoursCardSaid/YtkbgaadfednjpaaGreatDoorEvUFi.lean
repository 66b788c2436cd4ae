import Derived.Test.YtkbgaadfednjpaaGreatDoorEvUSq
import Derived.Test.YtkbgaadfednjpaaGreatDoorEvUIt
set_option linter.all false
set_option maxHeartbeats 8000000
noncomputable section
namespace Go.Ev
open Go.RowKit (Below Grown)
structure Fill (nx a : Pos) (ob1 ob2 : T C) : Prop where
 ok : ∃ (r q : Pos) (ro : Bool) (n st z k m gB cur : Nat) (ds : List D), r.nat + 1 = nx.nat /\ q.nat < r.nat /\ ob1.get r = some .hole /\ aQ ds /\
  ob1.get a = some (.cells false (ds.map fun d => Cell.o d gB) cur) /\ ob1.get q = some (.cells ro [.o (.sl a 0 n st z) k] m) /\
  ∀ i ci, ob2.get i = some ci -> (i = r /\ ci = .cells false (ds.map fun d => Cell.o d gB) cur) \/ (i = q /\ ci = .cells ro [.o (.sl r 0 n st z) k] m) \/ (i.nat < r.nat /\ ob1.get i = some ci /\ KpC r.nat ci)
open Classical in
theorem RndOk.fill {P : Program} {id : Pos} {ds : List D} {ob ob1 ob2 : T C} {nx nx1 a : Pos} {v : D} (h : RndOk P id ds ob nx none v ob1 nx1 none) (hv : Pu v) (ha : nx.nat <= a.nat) (F : Fill nx a ob1 ob2) : RndOk P id ds ob nx none v ob2 nx none := by
 obtain ⟨r, q, ro, n, st, z, k, m, gB, cu, dz, hr, hq, hole, hpu, hn, hqq, hrest⟩ := F.ok
 refine ⟨LgLe.refl _, Nat.le_refl _, fun id hn => absurd trivial hn, fun so hs γ args w gh hargs hob hnx hcur => ?_⟩
 have hall : ∀ id, so id := fun id => hs id trivial
 obtain ⟨fn, tmps, asg, body, h1, h2⟩ := h.ok so (fun id _ => hall id) γ args w gh hargs hob hnx hcur
 refine ⟨fn, tmps, asg, body, h1, fun ro' n' R hR => h2 ro' n' R fun γ1 w1 u g1 F1 hu ho hz => ?_⟩
 have hnr : a ≠ r := fun e => by rw [e] at ha; omega
 have hr1 : γ1.cur r = 0 := ho r _ (hall r) hole
 have hr0 : γ.cur r = 0 := by have := F1.up.cur r; omega
 have hnx0 : γ.cur a = 0 := hnx a (hall a) ha
 let γ2 : Gh := ⟨fun i => if i = r then γ1.cur a else if i.nat < r.nat then γ1.cur i else 0, fun i => if i = r then γ1.β a else γ1.β i, γ1.im⟩
 have cr : γ2.cur r = γ1.cur a := by show (if _ then _ else _) = _; rw [if_pos rfl]
 have br : γ2.β r = γ1.β a := by show (if _ then _ else _) = _; rw [if_pos rfl]
 have cl : ∀ i : Pos, i.nat < r.nat -> γ2.cur i = γ1.cur i := fun i hi => by
  have hne : i ≠ r := fun e => by rw [e] at hi; omega
  show (if _ then _ else _) = _; rw [if_neg hne, if_pos hi]
 have bl : ∀ i : Pos, i ≠ r -> γ2.β i = γ1.β i := fun i hi => by show (if _ then _ else _) = _; rw [if_neg hi]
 have c0 : ∀ i : Pos, i ≠ r -> ¬ i.nat < r.nat -> γ2.cur i = 0 := fun i h1 h2 => by show (if _ then _ else _) = _; rw [if_neg h1, if_neg h2]
 have lt2 : ∀ i s, s < γ2.cur i -> ∃ j, s < γ1.cur j /\ γ2.β i = γ1.β j /\ ((i = r /\ j = a) \/ (i.nat < r.nat /\ j = i)) := fun i s hi => by
  by_cases e : i = r
  ·subst e; rw [cr] at hi; exact ⟨a, hi, br, .inl ⟨rfl, rfl⟩⟩
  ·by_cases hl : i.nat < r.nat
   ·rw [cl i hl] at hi; exact ⟨i, hi, bl i e, .inr ⟨hl, rfl⟩⟩
   ·rw [c0 i e hl] at hi; exact absurd hi (Nat.not_lt_zero _)
 have kp : ∀ id : Pos, id.nat < r.nat -> γ2.cur id = γ1.cur id /\ γ2.β id = γ1.β id := fun i hi => ⟨cl i hi, bl i fun e => by rw [e] at hi; omega⟩
 have G2 : GH γ2 w1 := by
  refine ⟨fun i s hi => ?_, fun i s i' s' hi hi' he => ?_, fun b hb => ⟨(g1.im b hb).1, fun i s hi => ?_⟩, g1.gl.im fun _ h => h⟩
  ·obtain ⟨j, k1, k2, _⟩ := lt2 i s hi
   rw [k2]; exact g1.ob j s k1
  ·obtain ⟨j, k1, k2, k3⟩ := lt2 i s hi
   obtain ⟨j', k1', k2', k3'⟩ := lt2 i' s' hi'
   rw [k2, k2'] at he ⊢
   obtain ⟨e1, e2⟩ := g1.inj j s j' s' k1 k1' he
   refine ⟨?_, e2⟩
   rcases k3 with ⟨a1, a2⟩ | ⟨a1, a2⟩ <;> rcases k3' with ⟨b1, b2⟩ | ⟨b1, b2⟩
   ·rw [a1, b1]
   ·exfalso; rw [a2, b2] at e1; rw [<- e1] at b1; omega
   ·exfalso; rw [a2, b2] at e1; rw [e1] at a1; omega
   ·rw [<- a2, <- b2, e1]
  ·obtain ⟨j, k1, k2, _⟩ := lt2 i s hi
   rw [k2]; exact (g1.im b hb).2 j s k1
 have F2 : Fr (wrtn none) γ γ2 w w1 := by
  refine ⟨⟨fun i => ?_, fun i s hi => ?_, F1.up.sh, F1.up.im⟩, fun id hn => absurd trivial hn, F1.blk, fun i s h1 h2 => ?_, F1.imn, F1.lp, F1.size, F1.os, F1.tape, F1.output, F1.fz⟩
  ·by_cases e : i = r
   ·subst e; rw [hr0]; exact Nat.zero_le _
   ·by_cases hl : i.nat < r.nat
    ·rw [cl i hl]; exact F1.up.cur i
    ·have : r.nat ≠ i.nat := fun h => e (Pos.inj h.symm)
     rw [hnx i (hall i) (by omega)]; exact Nat.zero_le _
  ·have e : i ≠ r := fun e => by subst e; rw [hr0] at hi; exact absurd hi (Nat.not_lt_zero _)
   rw [bl i e]; exact F1.up.β i s hi
  ·obtain ⟨j, k1, k2, k3⟩ := lt2 i s h2
   rw [k2]
   rcases k3 with ⟨a1, a2⟩ | ⟨a1, a2⟩
   ·subst a2
    rcases F1.new j s (by rw [hnx0]; exact Nat.zero_le _) k1 with h | ⟨s0, h, _⟩
    ·exact .inl h
    ·rw [hnx0] at h; exact absurd h (Nat.not_lt_zero _)
   ·subst a2; exact F1.new j s h1 k1
 refine hR γ2 w1 u G2 F2 (DV.pu (γ := γ1) (γ' := γ2) (fun _ h => h) _ _ hv hu) (fun i ci _ hci => ?_) (fun i _ hi => c0 i (fun e => by rw [e] at hi; omega) (by omega))
 rcases hrest i ci hci with ⟨rfl, rfl⟩ | ⟨rfl, rfl⟩ | ⟨hi, hg, hk⟩
 ·obtain ⟨q0, q1, q2⟩ := ho a _ (hall a) hn
  refine ⟨q0, cr.trans q1, fun s hs => ?_⟩
  obtain ⟨vs, e, fr, q3, q4, q5⟩ := q2 s hs
  rw [br]
  refine ⟨vs, e, fr, q3, q4, fun p c hpc hh hd => ?_⟩
  obtain ⟨u', q6, q7, q8⟩ := q5 p c hpc hh hd
  refine ⟨u', q6, DV.pu (γ := γ1) (γ' := γ2) (fun _ h => h) _ _ ?_ q7, q8⟩
  obtain ⟨d, hd1, rfl⟩ := List.mem_map.1 (List.mem_of_getElem? hpc)
  exact aU.1 hpu d hd1
 ·obtain ⟨q0, q1, q2⟩ := ho i _ (hall i) hqq
  obtain ⟨e1, e2⟩ := kp i hq
  refine ⟨q0, e1.trans q1, fun s hs => ?_⟩
  obtain ⟨vs, e, fr, q3, q4, q5⟩ := q2 s hs
  rw [e2]
  refine ⟨vs, e, fr, q3, q4, fun p c hpc hh hd => ?_⟩
  cases p with
  | zero =>
    have hc : c = Cell.o (.sl r 0 n st z) k := by simpa using hpc.symm
    subst hc
    obtain ⟨u', q6, q7, q8⟩ := q5 0 (Cell.o (.sl a 0 n st z) k) rfl hh hd
    refine ⟨u', q6, ?_, q8⟩
    have q7 : DV γ1 w1 (.sl a 0 n st z) u' := q7
    show DV γ2 w1 (.sl r 0 n st z) u'
    unfold DV at q7 ⊢
    rw [cr, br]
    exact q7
  | succ p => simp at hpc
 ·exact HoldsO.kp (γ := γ1) (γ' := γ2) (fun _ h => h) kp hi hk (ho i ci (hall i) hg)
theorem CallOk.hole {P : Program} {f : Nat} {ds : List D} {ob ob' : T C} {nx nx' nx2 r : Pos} {lg lg' : Option (T Bool)} {v : D} (h : CallOk P f ds (T.set r .hole ob) nx' lg v ob' nx2 lg') (h1 : nx.nat <= r.nat) (h2 : nx.nat <= nx'.nat) (hw : wrtn lg' r) : CallOk P f ds ob nx lg v ob' nx2 lg' :=
 ⟨h.hl, Nat.le_trans h2 h.hx, fun id hn => by
  by_cases e : id = r
  ·subst e; exact absurd hw hn
  ·have := h.hk id hn
   rw [T.get_set_ne e] at this
   exact this, fun so hs γ args w gh ha ho hn => h.ok so hs γ args w gh ha (fun id c hid hc => by
  by_cases e : id = r
  ·subst e
   rw [T.get_set_same] at hc
   cases hc
   exact hn id hid h1
  ·rw [T.get_set_ne e] at hc
   exact ho id c hid hc) fun id hid hle => hn id hid (Nat.le_trans h2 hle)⟩
section
variable {lg : Option (T Bool)}
def LH (lg : Option (T Bool)) (id : Pos) (k : Option (T Bool) -> Prop) : Prop :=
 Option.casesOn lg (k none) fun L => Option.casesOn (L.get id) (T.setK id false L fun L => k (some L)) fun _ => k (some L)
def LL (lg : Option (T Bool)) (id : Pos) (k : Option (T Bool) -> Prop) : Prop :=
 Option.casesOn lg (k none) fun L => T.setK id true L fun L => k (some L)
theorem xR {id : Pos} {k : Option (T Bool) -> Prop} (h : LH lg id k) : ∃ l, (gX lg id = fun j => j l) /\ k l := by
 cases lg with
 | none => exact ⟨none, rfl, h⟩
 | some L =>
   change Option.rec _ _ (L.get id) at h
   cases hg : L.get id with
   | none =>
     rw [hg] at h
     change T.setK id false L _ at h
     rw [T.setK_eq] at h
     exact ⟨some (T.set id false L), funext fun j => by simp only [gX, hg, T.setK_eq], h⟩
   | some b => rw [hg] at h; exact ⟨some L, funext fun j => by simp only [gX, hg], h⟩
theorem yU {id : Pos} {k : Option (T Bool) -> Prop} (h : LL lg id k) : ∃ l, (rR lg id = fun j => j l) /\ k l := by
 cases lg with
 | none => exact ⟨none, rfl, h⟩
 | some L =>
   change T.setK id true L _ at h
   rw [T.setK_eq] at h
   exact ⟨_, funext fun j => by show T.setK id true L _ = _; rw [T.setK_eq], h⟩
end
theorem wSt.ok {o : Option X} {Z : X} {K : X -> Prop} (h : o = some Z) (k : K Z) : wSt o K := by
 subst h
 exact k
section
variable {sl : T D} {ob : T C} {nx : Pos} {lg : Option (T Bool)} {K : X -> Prop}
theorem wSt.fad {d id : Pos} {off st k : Nat} {x : RX} (hx : bH sl x = some (.pt id off st)) (h : eB sl ob nx lg d K (.pt id (off + k) st)) : wSt (step (.fad d x k) sl ob nx lg) K := by
 obtain ⟨h2, h3⟩ := bC h
 refine wSt.ok ?_ h3
 show rU d x k sl ob nx lg = _
 unfold rU
 rw [hx]
 simp only [bE]
 exact h2
theorem wSt.ld1 {d id : Pos} {off st lo cur : Nat} {ro : Bool} {cs : List Cell} {v : D} {x : RX} (hx : bH sl x = some (.pt id off st)) (ho : ob.get id = some (.cells ro cs cur)) (hc : cs[off]? = some (.o v lo)) (hl : lo <= st) (h : LH lg id fun lg => eB sl ob nx lg d K v) : wSt (step (.ld1 d x) sl ob nx lg) K := by
 obtain ⟨l1, e1, h⟩ := xR h
 obtain ⟨h2, h3⟩ := bC h
 refine wSt.ok ?_ h3
 show sO d x sl ob nx lg = _
 unfold sO
 rw [hx]
 simp only [ho, dL, hc]
 show (bif Nat.ble lo st then _ else none) = _
 rw [Nat.ble_eq_true_of_le hl, cond_true, e1]
 exact h2
theorem rB {β : Type} (st : Nat) (mk : D -> Cell) (v : D) : ∀ (off : Nat) (cs : List Cell) (f : List Cell -> Option β) (d : D) (lo : Nat), cs[off]? = some (.o d lo) -> lo <= st -> eO st mk [v] off cs f = f (cs.set off (mk v))
 | 0, [], f, d, lo, h, _ => by simp at h
 | 0, c :: cs, f, d, lo, h, hl => by
   simp at h
   subst h
   show (bif Nat.ble lo st then f (mk v :: cs) else none) = _
   rw [Nat.ble_eq_true_of_le hl]
   rfl
 | off + 1, [], f, d, lo, h, _ => by simp at h
 | off + 1, c :: cs, f, d, lo, h, hl => by
   show eO st mk [v] off cs (fun l => f (c :: l)) = _
   rw [rB st mk v off cs _ d lo (by simpa using h) hl]
   rfl
theorem wSt.st1 {id : Pos} {off st lo cur : Nat} {cs : List Cell} {v0 : D} {k : IntKind} {n : Int} {x y : RX} (hx : bH sl x = some (.pt id off st)) (hy : bH sl y = some (.i k n)) (ho : ob.get id = some (.cells false cs cur)) (hcur : cur = st + 1) (hc : cs[off]? = some (.o v0 lo)) (hl : lo <= st) (h : LL lg id fun lg => T.setK id (.cells false (cs.set off (.o (.i k n) st)) cur) ob fun ob => K ⟨sl, ob, nx, lg⟩) : wSt (step (.st x y 1) sl ob nx lg) K := by
 obtain ⟨l1, e1, h⟩ := yU h
 rw [T.setK_eq] at h
 refine wSt.ok ?_ h
 show Bj x y 1 sl ob nx lg = _
 unfold Bj
 rw [hx, hy]
 subst hcur
 have hb : Nat.beq (Nat.succ st) (st + 1) = true := Nat.beq_refl _
 have hcd : nO (.i k n) = some [.i k n] := rfl
 simp only [ho, hcd]
 show (bif Nat.beq 1 1 then (bif Nat.beq (Nat.succ st) (st + 1) then _ else _) else none) = _
 rw [hb]
 show eO st (fun d => Cell.o d st) [D.i k n] off cs _ = _
 rw [rB st _ _ off cs _ v0 lo hc hl]
 unfold nZ
 rw [e1]
 show (T.setK id _ ob fun ob => some ⟨sl, ob, nx, l1⟩ : Option X) = _
 rw [T.setK_eq]
end
structure Bh where
  last : Int
  rws : Int
  pls : Int
  rch : Int
  face : List Int
  sun : List Int
  winds : List (List Int)
  brk : List (Int × Int)
  nts : List (Int × Int)
def bD (p : Int × Int) : List D := [.i .i64 p.1, .i .i64 p.2]
def eQ (w : List Int) : List D := [.lst 1 (ints w)]
theorem aG (l : List (Int × Int)) : dG (aD bD l) := fL (fun _ => by simp [bD, aQ, Pu]) l
theorem aJ (l : List (List Int)) : dG (aD eQ l) := fL (fun _ => by simp [eQ, aQ, Pu, aC]) l
def eF (b : Bh) : List D := [.i .i64 b.last, .i .i64 b.rws, .i .i64 b.pls, .i .i64 b.rch, .lst 1 (ints b.face), .lst 1 (ints b.sun), .lst 1 (aD eQ b.winds), .lst 2 (aD bD b.brk), .lst 2 (aD bD b.nts)]
theorem aS (b : Bh) : aQ (eF b) := by simp [eF, aQ, Pu, aC, aJ, aG]
def iT (n : Int) : Bool := iU n 0 3
def rO (n : Int) : Bool := iU n (-1) 3
def xF (w : List Int) : Bool := decide (∀ i, i < w.length → 1 ≤ i → w.getD (i - 1) 0 < w.getD i 0)
def kM (w : List Int) : Bool := xF w && (decide (0 < w.length) && w.all iT)
def dN (b : Bh) (p : Int × Int) : Bool := iU p.1 0 (b.rws - 1) && iU p.2 0 (b.pls - 1)
def gI (b : Bh) (p : Int × Int) : Bool := iU p.1 0 b.last && iT p.2
def vX (b : Bh) (l : List Int) : Bool := decide ((l.length : Int) = b.rws) && l.all iT
def Bb (b : Bh) : Bool := decide (4 < b.last ∨ 3 < b.rws ∨ 5 < b.pls ∨ 4 < b.brk.length ∨ 5 < b.nts.length)
def fU (b : Bh) : Bool := iU b.last 0 4 && (iU b.rws 1 3 && (iU b.pls 1 5 && (iU b.rch 0 4 && (vX b b.face && (decide ((b.sun.length : Int) = b.last + 1) && (b.sun.all rO && (decide ((b.winds.length : Int) = b.last + 1) && (b.winds.all kM && (b.brk.all (dN b) && b.nts.all (gI b))))))))))
def bB (b : Bh) : Int := if Bb b = true then 3 else if fU b = true then 0 else 1
def Eh (h f : Int) (n : Int × Int) : Bool := decide (n.1 ≠ h ∨ n.2 = f)
def aH (b : Bh) (h : Nat) : List Int := (b.winds.getD h []).filter fun f => b.nts.all (Eh h f)
def IsMn (l : List Int) (m : Int) : Prop := m ∈ l ∧ ∀ x ∈ l, m ≤ x
def IsMx (l : List Int) (m : Int) : Prop := m ∈ l ∧ ∀ x ∈ l, x ≤ m
def AS : Int → Int
  | .ofNat 0 => -1
  | .ofNat 2 => 1
  | _ => 0
def Bz : Int → Int
  | .ofNat 1 => 1
  | .ofNat 3 => -1
  | _ => 0
end Go.Ev
end
