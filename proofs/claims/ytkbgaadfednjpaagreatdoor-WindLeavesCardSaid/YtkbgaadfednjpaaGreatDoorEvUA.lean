import Derived.Orders
import Derived.OrdersIn
import Derived.RangeFuncCalls
import Derived.RangeFuncNested
import Derived.RangeFuncLeaves
import Derived.Below
import Derived.KernelRfl
import Derived.Deep.MidRow
import Derived.ArgAppend
import Derived.Laws.AppendOwnNone
import Derived.Laws.MakeOwn
import Derived.Deep.AppendSrc
import Derived.Deep.Upon
set_option linter.all false
set_option maxHeartbeats 8000000
noncomputable section
namespace Go.Ev
inductive Pos where
 | h
 | o (p : Pos)
 | i (p : Pos)
namespace Pos
def nat : Pos -> Nat
 | .h => 1
 | .o p => 2 * p.nat
 | .i p => 2 * p.nat + 1
theorem nat_pos : ∀ p : Pos, 0 < p.nat
 | .h => by simp [nat]
 | .o p => by have := nat_pos p; simp [nat]; omega
 | .i p => by simp [nat]
theorem inj : ∀ {p q : Pos}, p.nat = q.nat -> p = q
 | .h, .h, _ => rfl
 | .h, .o q, e => by have := nat_pos q; simp [nat] at e; omega
 | .h, .i q, e => by have := nat_pos q; simp [nat] at e; omega
 | .o p, .h, e => by have := nat_pos p; simp [nat] at e; omega
 | .i p, .h, e => by have := nat_pos p; simp [nat] at e; omega
 | .o p, .o q, e => by rw [inj (p := p) (q := q) (by simp [nat] at e; omega)]
 | .i p, .i q, e => by rw [inj (p := p) (q := q) (by simp [nat] at e; omega)]
 | .o p, .i q, e => by simp [nat] at e; omega
 | .i p, .o q, e => by simp [nat] at e; omega
def ix (p : Pos) : Nat := p.nat - 1
theorem ix_inj {p q : Pos} (h : p.ix = q.ix) : p = q := inj (by have := nat_pos p; have := nat_pos q; unfold ix at h; omega)
def succ : Pos -> Pos
 | .h => .o .h
 | .o p => .i p
 | .i p => .o p.succ
theorem succ_nat : ∀ p : Pos, p.succ.nat = p.nat + 1
 | .h => rfl
 | .o p => by simp [succ, nat]
 | .i p => by have := succ_nat p; simp [succ, nat]; omega
def succK {β : Type} (p : Pos) : (Pos -> β) -> β :=
 Pos.rec (fun k => k (.o .h)) (fun p _ k => k (.i p)) (fun _ ih k => ih fun q => k (.o q)) p
theorem succK_eq {β : Type} : ∀ (p : Pos) (k : Pos -> β), succK p k = k p.succ
 | .h, _ => rfl
 | .o _, _ => rfl
 | .i p, k => succK_eq p fun q => k (.o q)
def beq (p : Pos) : Pos -> Bool :=
 Pos.rec (fun q => Pos.casesOn q true (fun _ => false) (fun _ => false)) (fun _ ih q => Pos.casesOn q false ih (fun _ => false)) (fun _ ih q => Pos.casesOn q false (fun _ => false) ih) p
theorem beq_iff : ∀ {p q : Pos}, beq p q = true ↔ p = q
 | .h, .h => by simp [beq]
 | .h, .o q => by simp [beq]
 | .h, .i q => by simp [beq]
 | .o p, .h => by simp [beq]
 | .i p, .h => by simp [beq]
 | .o p, .o q => by show beq p q = true ↔ _; rw [beq_iff]; simp
 | .i p, .i q => by show beq p q = true ↔ _; rw [beq_iff]; simp
 | .o p, .i q => by simp [beq]
 | .i p, .o q => by simp [beq]
theorem beq_self (p : Pos) : beq p p = true := beq_iff.2 rfl
noncomputable instance : DecidableEq Pos := fun p q => if h : beq p q = true then isTrue (beq_iff.1 h) else isFalse fun e => h (beq_iff.2 e)
end Pos
inductive T (α : Type) where
 | e
 | n (l : T α) (v : Option α) (r : T α)
namespace T
variable {α : Type}
def get (t : T α) : Pos -> Option α :=
 T.rec (fun _ => none) (fun _ v _ gl gr p => Pos.casesOn p v gl gr) t
theorem get_e (p : Pos) : (T.e : T α).get p = none := rfl
theorem get_h (l r : T α) (v : Option α) : (T.n l v r).get .h = v := rfl
theorem get_o (l r : T α) (v : Option α) (p : Pos) : (T.n l v r).get (.o p) = l.get p := rfl
theorem get_i (l r : T α) (v : Option α) (p : Pos) : (T.n l v r).get (.i p) = r.get p := rfl
def set : Pos -> α -> T α -> T α
 | .h, x, .e => .n .e (some x) .e
 | .h, x, .n l _ r => .n l (some x) r
 | .o p, x, .e => .n (set p x .e) none .e
 | .o p, x, .n l v r => .n (set p x l) v r
 | .i p, x, .e => .n .e none (set p x .e)
 | .i p, x, .n l v r => .n l v (set p x r)
def setK {β : Type} (p : Pos) (x : α) : T α -> (T α -> β) -> β :=
 Pos.rec (fun t k => T.casesOn t (k (.n .e (some x) .e)) (fun l _ r => k (.n l (some x) r)))
  (fun _ ih t k => T.casesOn t (ih .e fun l => k (.n l none .e)) (fun l v r => ih l fun l => k (.n l v r)))
  (fun _ ih t k => T.casesOn t (ih .e fun r => k (.n .e none r)) (fun l v r => ih r fun r => k (.n l v r))) p
theorem setK_eq {β : Type} : ∀ (p : Pos) (x : α) (t : T α) (k : T α -> β), setK p x t k = k (set p x t)
 | .h, x, .e, k => rfl
 | .h, x, .n _ _ _, k => rfl
 | .o p, x, .e, k => setK_eq p x .e fun l => k (.n l none .e)
 | .o p, x, .n l v r, k => setK_eq p x l fun l => k (.n l v r)
 | .i p, x, .e, k => setK_eq p x .e fun r => k (.n .e none r)
 | .i p, x, .n l v r, k => setK_eq p x r fun r => k (.n l v r)
theorem kB : ∀ (p : Pos) (x : α) (t : T α) (q : Pos), (set p x t).get q = if q = p then some x else t.get q
 | .h, x, .e, q => by cases q <;> simp [set, get_h, get_o, get_i, get_e]
 | .h, x, .n _ _ _, q => by cases q <;> simp [set, get_h, get_o, get_i]
 | .o p, x, .e, q => by cases q <;> simp [set, get_h, get_o, get_i, get_e, kB p]
 | .o p, x, .n l v r, q => by cases q <;> simp [set, get_h, get_o, get_i, kB p]
 | .i p, x, .e, q => by cases q <;> simp [set, get_h, get_o, get_i, get_e, kB p]
 | .i p, x, .n l v r, q => by cases q <;> simp [set, get_h, get_o, get_i, kB p]
theorem get_set_same (p : Pos) (x : α) (t : T α) : (set p x t).get p = some x := by rw [kB, if_pos rfl]
theorem get_set_ne {p q : Pos} (h : q ≠ p) (x : α) (t : T α) : (set p x t).get q = t.get q := by rw [kB, if_neg h]
end T
inductive D where
 | any
 | b (x : Bool)
 | i (k : IntKind) (n : Int)
 | s (x : ByteArray)
 | np
 | nf
 | ni
 | nm
 | ns
 | pt (id : Pos) (off st : Nat)
 | sl (id : Pos) (off len st z : Nat)
 | em
 | mp (id : Pos)
 | yl (id : Pos)
 | ag (cs : List D)
 | tp (vs : List D)
 | fn (f : Pos) (first caps : List D)
 | ifc (t : Nat) (v : D)
 | lst (z : Nat) (es : List (List D))
 | pl (r : List D) (k : Nat)
structure Gh where
 cur : Pos -> Nat
 β : Pos -> Nat -> Nat × Nat
 im : Nat -> Prop
mutual
def DV (γ : Gh) (w : World) : D -> Value -> Prop
 | .any, _ => True
 | .b x, v => v = .bool x
 | .i k n, v => v = .int k n
 | .s x, v => v = .string x
 | .np, v => v = .pointer none
 | .nf, v => v = .nilFunc
 | .ni, v => v = .nilIface
 | .nm, v => v = .map none
 | .ns, v => v = .slice none 0 0
 | .pt id off st, v => st < γ.cur id /\ (γ.β id st).2 <= off /\ v = .pointer (some ⟨(γ.β id st).1, off - (γ.β id st).2, none⟩)
 | .sl id off len st z, v => st < γ.cur id /\ (γ.β id st).2 <= off /\ ∃ cap e n, v = .slice (some ⟨(γ.β id st).1, off - (γ.β id st).2, none⟩) len cap /\ len <= cap /\ w.shape? (γ.β id st).1 = some (e, n) /\ off - (γ.β id st).2 + cap * z <= n
 | .em, v => ∃ a, v = .slice (some a) 0 0
 | .mp id, v => 0 < γ.cur id /\ v = .map (some (γ.β id 0).1)
 | .yl id, v => 0 < γ.cur id /\ v = .func (.yield (γ.β id 0).1) #[] #[]
 | .ag cs, v => ∃ vs : Array Value, v = .agg vs /\ DVL γ w cs vs.toList /\ ∀ u ∈ vs.toList, u.oneCell' = true
 | .tp cs, v => ∃ vs : Array Value, v = .tuple vs /\ DVL γ w cs vs.toList
 | .fn f x y, v => ∃ vx vy : Array Value, v = .func (.func f.ix) vx vy /\ DVL γ w x vx.toList /\ DVL γ w y vy.toList
 | .ifc t d, v => ∃ u, v = .iface t u /\ DV γ w d u
 | .lst z es, v => ∃ p cap, v = .slice p es.length cap /\ es.length <= cap /\ (p = none -> cap = 0) /\ (es = [] \/ ∃ b o vs e fr, γ.im b /\ w.heap[b]? = some (.cells vs e fr) /\ p = some ⟨b, o, none⟩ /\ o + es.length * z <= vs.size /\ DVE γ w z es (vs.toList.drop o) /\ ∀ u ∈ (vs.toList.drop o).take (es.length * z), u.oneCell' = true)
 | .pl r k, v => ∃ b o vs e fr, γ.im b /\ w.heap[b]? = some (.cells vs e fr) /\ v = .pointer (some ⟨b, o + k, none⟩) /\ o + r.length <= vs.size /\ DVL γ w r ((vs.toList.drop o).take r.length) /\ ∀ u ∈ (vs.toList.drop o).take r.length, u.oneCell' = true
def DVE (γ : Gh) (w : World) (z : Nat) : List (List D) -> List Value -> Prop
 | [], _ => True
 | r :: es, vs => r.length = z /\ DVL γ w r (vs.take z) /\ DVE γ w z es (vs.drop z)
def DVL (γ : Gh) (w : World) : List D -> List Value -> Prop
 | [], vs => vs = []
 | d :: ds, vs => ∃ v r, vs = v :: r /\ DV γ w d v /\ DVL γ w ds r
end
structure Up (γ γ' : Gh) (w w' : World) : Prop where
 cur : ∀ id, γ.cur id <= γ'.cur id
 β : ∀ id st, st < γ.cur id -> γ'.β id st = γ.β id st
 sh : ∀ b x, w.shape? b = some x -> w'.shape? b = some x
 im : ∀ b, γ.im b -> γ'.im b /\ ∀ o, w.heap[b]? = some o -> w'.heap[b]? = some o
theorem Up.refl (γ : Gh) (w : World) : Up γ γ w w := ⟨fun _ => Nat.le_refl _, fun _ _ _ => rfl, fun _ _ h => h, fun _ h => ⟨h, fun _ h => h⟩⟩
theorem Up.trans {a b c : Gh} {u v w : World} (h : Up a b u v) (k : Up b c v w) : Up a c u w :=
 ⟨fun id => Nat.le_trans (h.cur id) (k.cur id), fun id st hs => (k.β id st (Nat.lt_of_lt_of_le hs (h.cur id))).trans (h.β id st hs), fun b x hx => k.sh b x (h.sh b x hx),
  fun b hb => ⟨(k.im b (h.im b hb).1).1, fun o ho => (k.im b (h.im b hb).1).2 o ((h.im b hb).2 o ho)⟩⟩
mutual
theorem DV.mono {γ γ' : Gh} {w w' : World} (U : Up γ γ' w w') : ∀ (d : D) (v : Value), DV γ w d v -> DV γ' w' d v
 | .any, _, H => by unfold DV at *; exact H
 | .b _, _, H => by unfold DV at *; exact H
 | .i _ _, _, H => by unfold DV at *; exact H
 | .s _, _, H => by unfold DV at *; exact H
 | .np, _, H => by unfold DV at *; exact H
 | .nf, _, H => by unfold DV at *; exact H
 | .ni, _, H => by unfold DV at *; exact H
 | .nm, _, H => by unfold DV at *; exact H
 | .ns, _, H => by unfold DV at *; exact H
 | .em, _, H => by unfold DV at *; exact H
 | .pt id off st, _, H => by
   unfold DV at *
   obtain ⟨h1, h2, h3⟩ := H
   rw [U.β id st h1]
   exact ⟨Nat.lt_of_lt_of_le h1 (U.cur id), h2, h3⟩
 | .sl id off len st z, _, H => by
   unfold DV at *
   obtain ⟨h1, h2, cap, e, n, h3, h4, h5, h6⟩ := H
   rw [U.β id st h1]
   exact ⟨Nat.lt_of_lt_of_le h1 (U.cur id), h2, cap, e, n, h3, h4, U.sh _ _ h5, h6⟩
 | .mp id, _, H => by
   unfold DV at *
   obtain ⟨h1, h2⟩ := H
   rw [U.β id 0 h1]
   exact ⟨Nat.lt_of_lt_of_le h1 (U.cur id), h2⟩
 | .yl id, _, H => by
   unfold DV at *
   obtain ⟨h1, h2⟩ := H
   rw [U.β id 0 h1]
   exact ⟨Nat.lt_of_lt_of_le h1 (U.cur id), h2⟩
 | .ag cs, _, H => by
   unfold DV at *
   obtain ⟨vs, h1, h2, h3⟩ := H
   exact ⟨vs, h1, DVL.mono U cs _ h2, h3⟩
 | .tp cs, _, H => by
   unfold DV at *
   obtain ⟨vs, h1, h2⟩ := H
   exact ⟨vs, h1, DVL.mono U cs _ h2⟩
 | .fn _ x y, _, H => by
   unfold DV at *
   obtain ⟨vx, vy, h1, h2, h3⟩ := H
   exact ⟨vx, vy, h1, DVL.mono U x _ h2, DVL.mono U y _ h3⟩
 | .ifc _ d, _, H => by
   unfold DV at *
   obtain ⟨u, h1, h2⟩ := H
   exact ⟨u, h1, DV.mono U d u h2⟩
 | .lst z es, _, H => by
   unfold DV at *
   obtain ⟨p, cap, h1, h2, h3, h4⟩ := H
   refine ⟨p, cap, h1, h2, h3, ?_⟩
   rcases h4 with h4 | ⟨b, o, vs, e, fr, k1, k2, k3, k4, k5, k6⟩
   ·exact .inl h4
   ·exact .inr ⟨b, o, vs, e, fr, (U.im b k1).1, (U.im b k1).2 _ k2, k3, k4, DVE.mono U z es _ k5, k6⟩
 | .pl ds _, _, H => by
   unfold DV at *
   obtain ⟨b, o, vs, e, fr, k1, k2, k3, k4, k5, k6⟩ := H
   exact ⟨b, o, vs, e, fr, (U.im b k1).1, (U.im b k1).2 _ k2, k3, k4, DVL.mono U ds _ k5, k6⟩
theorem DVE.mono {γ γ' : Gh} {w w' : World} (U : Up γ γ' w w') (z : Nat) : ∀ (es : List (List D)) (vs : List Value), DVE γ w z es vs -> DVE γ' w' z es vs
 | [], _, _ => by unfold DVE; trivial
 | r :: es, _, H => by
   unfold DVE at *
   exact ⟨H.1, DVL.mono U r _ H.2.1, DVE.mono U z es _ H.2.2⟩
theorem DVL.mono {γ γ' : Gh} {w w' : World} (U : Up γ γ' w w') : ∀ (ds : List D) (vs : List Value), DVL γ w ds vs -> DVL γ' w' ds vs
 | [], _, H => by unfold DVL at *; exact H
 | d :: ds, _, H => by
   unfold DVL at *
   obtain ⟨v, r, h1, h2, h3⟩ := H
   exact ⟨v, r, h1, DV.mono U d v h2, DVL.mono U ds r h3⟩
end
theorem aK {γ : Gh} {w : World} : ∀ {ds : List D} {vs : List Value}, DVL γ w ds vs ↔ ds.length = vs.length /\ ∀ (i : Nat) d v, ds[i]? = some d -> vs[i]? = some v -> DV γ w d v
 | [], vs => by
   unfold DVL
   constructor
   ·rintro rfl; simp
   ·rintro ⟨h, _⟩; exact List.length_eq_zero_iff.1 h.symm
 | d :: ds, vs => by
   unfold DVL
   constructor
   ·rintro ⟨v, r, rfl, h1, h2⟩
    obtain ⟨h3, h4⟩ := aK.1 h2
    refine ⟨by simp [h3], fun i d' v' hd hv => ?_⟩
    cases i with
    | zero => simp at hd hv; rw [<- hd, <- hv]; exact h1
    | succ i => exact h4 i d' v' (by simpa using hd) (by simpa using hv)
   ·rintro ⟨h1, h2⟩
    cases vs with
    | nil => simp at h1
    | cons v r => exact ⟨v, r, rfl, h2 0 d v rfl rfl, aK.2 ⟨by simpa using h1, fun i d' v' hd hv => h2 (i + 1) d' v' (by simpa using hd) (by simpa using hv)⟩⟩
theorem DVL.append {γ : Gh} {w : World} {a b : List D} {x y : List Value} (h1 : DVL γ w a x) (h2 : DVL γ w b y) : DVL γ w (a ++ b) (x ++ y) := by
 obtain ⟨l1, e1⟩ := aK.1 h1
 obtain ⟨l2, e2⟩ := aK.1 h2
 refine aK.2 ⟨by simp [l1, l2], fun i d v hd hv => ?_⟩
 by_cases hi : i < a.length
 ·rw [List.getElem?_append_left hi] at hd
  rw [List.getElem?_append_left (by omega)] at hv
  exact e1 i d v hd hv
 ·rw [List.getElem?_append_right (by omega)] at hd
  rw [List.getElem?_append_right (by omega)] at hv
  rw [l1] at hd
  exact e2 _ d v hd hv
theorem DVL.take {γ : Gh} {w : World} {a : List D} {x : List Value} (h : DVL γ w a x) (n : Nat) : DVL γ w (a.take n) (x.take n) := by
 obtain ⟨l1, e1⟩ := aK.1 h
 refine aK.2 ⟨by simp [l1], fun i d v hd hv => ?_⟩
 by_cases hi : i < n
 ·rw [List.getElem?_take_of_lt hi] at hd hv
  exact e1 i d v hd hv
 ·rw [List.getElem?_eq_none (by simp; omega)] at hd; cases hd
theorem DVL.drop {γ : Gh} {w : World} {a : List D} {x : List Value} (h : DVL γ w a x) (n : Nat) : DVL γ w (a.drop n) (x.drop n) := by
 obtain ⟨l1, e1⟩ := aK.1 h
 refine aK.2 ⟨by simp [l1], fun i d v hd hv => ?_⟩
 rw [List.getElem?_drop] at hd hv
 exact e1 _ d v hd hv
theorem DVL.nil {γ : Gh} {w : World} : DVL γ w [] [] := by unfold DVL; rfl
theorem DVL.cons {γ : Gh} {w : World} {d : D} {v : Value} {ds : List D} {vs : List Value} (h : DV γ w d v) (k : DVL γ w ds vs) : DVL γ w (d :: ds) (v :: vs) := by
 unfold DVL; exact ⟨v, vs, rfl, h, k⟩
theorem DVL.one {γ : Gh} {w : World} {d : D} {v : Value} (h : DV γ w d v) : DVL γ w [d] [v] := DVL.cons h DVL.nil
def LR : Nat -> Option (List D)
 | 0 => some [.i .i64 (.negSucc 0), .i .i64 (.ofNat 0), .i .i64 (.ofNat 0), .i .i64 (.ofNat 1), .i .i64 (.ofNat 1), .i .i64 (.ofNat 0), .i .i64 (.ofNat 0), .i .i64 (.negSucc 0)]
 | _ => none
inductive RX where
 | t (p : Pos)
 | k (d : D)
inductive LK where
 | b
 | i (k : IntKind)
inductive RO where
 | mv (d : Pos) (x : RX)
 | pick (d : Pos) (c x y : RX)
 | new (d : Pos) (zs : List D)
 | box (d : Pos) (x : RX)
 | bld (d : Pos) (zs : List D) (ps : List (Nat × Nat × RX))
 | bsl (d : Pos) (z len : Nat) (zs : List D) (ps : List (Nat × Nat × RX))
 | ld1 (d : Pos) (x : RX)
 | ldn (d : Pos) (x : RX) (n : Nat)
 | st (x y : RX) (n : Nat)
 | nilc (d : Pos) (x : RX)
 | bin (d : Pos) (op : BinOp) (x y : RX)
 | eq (d : Pos) (neg : Bool) (tk : Nat) (x y : RX)
 | eqr (d : Pos) (neg : Bool) (ks : List LK) (x y : RX)
 | un (d : Pos) (op : UnOp) (x : RX)
 | cvi (d : Pos) (k : IntKind) (x : RX)
 | fnl (d : Pos) (f : Pos) (first caps : List RX)
 | mkm (d : Pos)
 | mks (d : Pos) (z : Nat) (zs : List D) (l c : RX)
 | slc (d : Pos) (z : Nat) (x : RX) (lo hi mx : Option RX)
 | sla (d : Pos) (n z : Nat) (x : RX) (lo hi mx : Option RX)
 | fad (d : Pos) (x : RX) (off : Nat)
 | fld (d : Pos) (x : RX) (off n : Nat) (row : Bool)
 | ixs (d : Pos) (z : Nat) (x i : RX)
 | ixa (d : Pos) (n z : Nat) (x i : RX)
 | ext (d : Pos) (x : RX) (n : Nat)
 | len (d : Pos) (x : RX)
 | app (d : Pos) (z : Nat) (x y : RX)
 | cpy (d : Option Pos) (z : Nat) (x y : RX)
 | mx (d : Pos) (x y : RX)
 | mn (d : Pos) (x y : RX)
 | lkp (d : Pos) (zero : D) (ok : Bool) (ks : List LK) (x i : RX)
 | mup (ks : List LK) (x i v : RX)
 | ixv (d : Pos) (len z : Nat) (row : Bool) (x i : RX)
 | ixt (d : Pos) (x i : RX)
 | cap (d : Pos) (x : RX)
 | apn (d : Pos) (z : Nat) (zs : List D) (x y : RX)
 | clr (z : Nat) (zs : List D) (x : RX)
 | cf (d : Option Pos) (f : Pos) (xs : List RX)
 | cv (d : Option Pos) (x : RX) (xs : List RX)
 | bad
inductive RG where
 | u (r : RO)
 | g (p : Pos) (want : Bool) (d : Option Pos) (r : RO)
inductive RC where
 | skip
 | ret
 | exit (id : Nat)
 | reg (ops : List RG)
 | drw (ops : List RG) (ms : List Nat)
 | seq (a b : RC)
 | cond (c : RX) (a b : RC)
 | blk (id : Nat) (a : RC)
 | loop (a : RC)
 | rf (f : RX) (ps : List Pos) (nt : Nat) (asg body : Code)
inductive RR where
 | t (p : Pos)
 | c1 (p : Pos)
 | cn (p : Pos) (n : Nat)
structure RF where
 nt : Nat
 body : RC
 res : List RR
 kn : Option D
 mem : List (List D × D)
def RX.ss : RX -> List Pos
 | .t p => [p]
 | .k _ => []
def RX.sss : List RX -> List Pos
 | [] => []
 | x :: l => x.ss ++ sss l
def RX.sso : Option RX -> List Pos
 | none => []
 | some x => x.ss
def RX.ssp : List (Nat × Nat × RX) -> List Pos
 | [] => []
 | p :: l => p.2.2.ss ++ ssp l
def RO.ss : RO -> List Pos
 | .mv _ x => x.ss
 | .pick _ c x y => c.ss ++ (x.ss ++ y.ss)
 | .new _ _ => []
 | .box _ x => x.ss
 | .bld _ _ ps => RX.ssp ps
 | .bsl _ _ _ _ ps => RX.ssp ps
 | .ld1 _ x => x.ss
 | .ldn _ x _ => x.ss
 | .st x y _ => x.ss ++ y.ss
 | .nilc _ x => x.ss
 | .bin _ _ x y => x.ss ++ y.ss
 | .eq _ _ _ x y => x.ss ++ y.ss
 | .eqr _ _ _ x y => x.ss ++ y.ss
 | .un _ _ x => x.ss
 | .cvi _ _ x => x.ss
 | .fnl _ _ a b => RX.sss a ++ RX.sss b
 | .mkm _ => []
 | .mks _ _ _ l c => l.ss ++ c.ss
 | .slc _ _ x lo hi m => x.ss ++ (RX.sso lo ++ (RX.sso hi ++ RX.sso m))
 | .sla _ _ _ x lo hi m => x.ss ++ (RX.sso lo ++ (RX.sso hi ++ RX.sso m))
 | .fad _ x _ => x.ss
 | .fld _ x _ _ _ => x.ss
 | .ixs _ _ x i => x.ss ++ i.ss
 | .ixa _ _ _ x i => x.ss ++ i.ss
 | .ext _ x _ => x.ss
 | .len _ x => x.ss
 | .app _ _ x y => x.ss ++ y.ss
 | .cpy _ _ x y => x.ss ++ y.ss
 | .mx _ x y => x.ss ++ y.ss
 | .mn _ x y => x.ss ++ y.ss
 | .lkp _ _ _ _ x i => x.ss ++ i.ss
 | .mup _ x i v => x.ss ++ (i.ss ++ v.ss)
 | .ixv _ _ _ _ x i => x.ss ++ i.ss
 | .ixt _ x i => x.ss ++ i.ss
 | .cap _ x => x.ss
 | .apn _ _ _ x y => x.ss ++ y.ss
 | .clr _ _ x => x.ss
 | .cf _ _ xs => RX.sss xs
 | .cv _ x xs => x.ss ++ RX.sss xs
 | .bad => []
def RG.ss : RG -> List Pos
 | .u r => r.ss
 | .g p _ _ r => p :: r.ss
def cU (m i : Nat) : Bool := Nat.beq (Nat.land (Nat.shiftRight m i) 1) 1
def yE (d : Nat) : List Nat -> Bool
 | [] => false
 | e :: l => bif Nat.beq d e then true else yE d l
def memO (d : Option Nat) (l : List Nat) : Bool :=
 match d with
 | none => false
 | some d => yE d l
abbrev Fp := List Nat × Option Nat
def lB (a b : Fp) : Bool := bif memO b.2 a.1 then false else bif memO a.2 b.1 then false else true
def cK : List Nat -> Nat -> Nat
 | [], _ => 0
 | x :: _, 0 => x
 | _ :: l, n + 1 => cK l n
def fV (M : List Nat) : List Edge -> Nat
 | [] => 0
 | e :: es => bif Region.binds .any e then Nat.lor (Nat.lor (Nat.shiftLeft 1 e.on) (cK M e.on)) (fV M es) else fV M es
def dY (M : List Nat) : List Oper -> List Nat
 | [] => M
 | o :: os => dY (M ++ [fV M o.after.toList]) os
def kJ (j : Nat) : List Edge -> Bool
 | [] => true
 | e :: es => bif Region.binds .any e then (bif Nat.blt e.on j then kJ j es else false) else kJ j es
def dW (M : List Nat) : Nat -> List Oper -> Bool
 | _, [] => true
 | j, o :: os => bif kJ j o.after.toList then (bif Nat.beq (cK M j) (fV M o.after.toList) then dW M (Nat.succ j) os else false) else false
def eG (M : List Nat) (x : Fp) (i : Nat) : Nat -> List Fp -> Bool
 | _, [] => true
 | j, y :: l => bif cU (cK M j) i then eG M x i (Nat.succ j) l else bif lB x y then eG M x i (Nat.succ j) l else false
def dU (M : List Nat) : Nat -> List Fp -> Bool
 | _, [] => true
 | i, x :: l => bif eG M x i (Nat.succ i) l then dU M (Nat.succ i) l else false
def BZ (d : Option Nat) (l : List Nat) : List Nat :=
 match d with
 | none => l
 | some d => d :: l
def Dd : List RG -> List Oper -> List Fp
 | g :: gs, o :: os => (BZ o.dst (g.ss.map Pos.ix), o.dst) :: Dd gs os
 | _, _ => []
def Mv (a b : Pos) : RG := .u (.mv a (.t b))
def L1 (a b : Pos) : RG := .u (.ld1 a (.t b))
def jX (a b : Pos) (n : Nat) : RG := .u (.ldn a (.t b) n)
def Fd (a b : Pos) (n : Nat) : RG := .u (.fad a (.t b) n)
def dN (a : Pos) (o : BinOp) (b : Pos) (n : Int) : RG := .u (.bin a o (.t b) (.k (.i .i64 n)))
def eJ (a : Pos) (o : BinOp) (b c : Pos) : RG := .u (.bin a o (.t b) (.t c))
instance : Coe Pos RX := ⟨.t⟩
def K_ (n : Int) : RX := .k (.i .i64 n)
def Po (a b c : Pos) : RG := .u (.pick a (.t b) (.k (.b true)) (.t c))
def Pa (a b c : Pos) : RG := .u (.pick a (.t b) (.t c) (.k (.b false)))
def Gs (a : Pos) (b : Bool) (d : Pos) (r : RO) : RG := .g a b (some d) r
def Cf (a f : Pos) (xs : List RX) : RG := .u (.cf (some a) f xs)
def Sr (l : List RG) (r : RC) : RC := .seq (.reg l) r
def Dk : Nat -> Nat -> Pos
 | 0, _ => .h
 | f + 1, n => bif Nat.ble n 1 then .h else bif Nat.beq (n % 2) 0 then .o (Dk f (n / 2)) else .i (Dk f (n / 2))
def oN (s : Nat) : Option Pos := bif Nat.beq (Dk 20 (s + 1)).ix s then some (Dk 20 (s + 1)) else none
theorem cQ {s : Nat} {p : Pos} (h : oN s = some p) : p.ix = s := by
 unfold oN at h
 cases hb : Nat.beq (Dk 20 (s + 1)).ix s with
 | true => rw [hb] at h; cases h; exact Nat.eq_of_beq_eq_true hb
 | false => rw [hb] at h; cases h
def aU (nt s : Nat) : Option Pos := bif Nat.blt s nt then oN s else none
theorem jP {nt s : Nat} {p : Pos} (h : aU nt s = some p) : p.ix = s /\ s < nt := by
 unfold aU at h
 cases hb : Nat.blt s nt with
 | true => rw [hb] at h; exact ⟨cQ h, Nat.le_of_ble_eq_true hb⟩
 | false => rw [hb] at h; cases h
def oX (nt : Nat) : List Nat -> Option (List Pos)
 | [] => some []
 | s :: l => match aU nt s, oX nt l with
   | some p, some ps => some (p :: ps)
   | _, _ => none
def lH : Value -> Option D
 | .bool x => some (.b x)
 | .int k n => some (.i k n)
 | .string s => some (.s s)
 | .slice none 0 0 => some .ns
 | .pointer none => some .np
 | .nilFunc => some .nf
 | .nilIface => some .ni
 | .map none => some .nm
 | _ => none
def gF : List Value -> Option (List D)
 | [] => some []
 | v :: vs => match lH v, gF vs with
   | some d, some ds => some (d :: ds)
   | _, _ => none
def rx : Operand -> Option RX
 | .tmp t => match oN t with
   | some p => some (.t p)
   | none => none
 | .const v => match lH v with
   | some d => some (.k d)
   | none => match v with
     | .agg cs => match gF cs.toList with
       | some ds => some (.k (.ag ds))
       | none => none
     | _ => none
 | .func f => match oN f with
   | some p => some (.k (.fn p [] []))
   | none => none
 | .global g => match LR g with
   | some r => some (.k (.pl r 0))
   | none => none
def BP : List Operand -> Option (List RX)
 | [] => some []
 | x :: l => match rx x, BP l with
   | some p, some ps => some (p :: ps)
   | _, _ => none
def xT : Option Operand -> Option (Option RX)
 | none => some none
 | some x => match rx x with
   | some p => some (some p)
   | none => none
section
variable (P : Program)
def dS (t : TypeId) : Option Bool :=
 match P.underlying t with
 | some (.struct _) => some true
 | some (.array _ _) => some true
 | some _ => some false
 | none => none
def cT (t : TypeId) : Option Nat := (P.info? t).map (·.size)
def eC (t : TypeId) : Option (List D) :=
 match P.info? t with
 | some i => match i.zero with
   | some z => gF z.cells.toList
   | none => none
 | none => none
def zQ (t : TypeId) : Option D :=
 match P.info? t with
 | some i => match i.zero with
   | some (.agg cs) => match gF cs.toList with
     | some ds => some (.ag ds)
     | none => none
   | some v => lH v
   | none => none
 | none => none
def iH (s : TypeId) (f : Nat) : Option (Nat × TypeId) :=
 match P.underlying s with
 | some (.struct fs) => match fs[f]? with
   | some x => some (x.offset, x.type)
   | none => none
 | _ => none
def iE (t : TypeId) : Option (TypeId × Nat) :=
 match P.underlying t with
 | some (.slice el) => match cT P el with
   | some n => some (el, n)
   | none => none
 | _ => none
def hJ : List Field -> Option (List (Nat × Nat))
 | [] => some []
 | f :: fs => match cT P f.type, hJ fs with
   | some n, some r => some ((f.offset, n) :: r)
   | _, _ => none
def uE (t : TypeId) : Option (Nat -> Option (Nat × Nat)) :=
 match P.underlying t with
 | some (.struct fs) => (hJ P fs.toList).map fun pl i => pl[i]?
 | some (.array _ el) => (cT P el).map fun n i => some (i * n, n)
 | _ => none
def kX (place : Nat -> Option (Nat × Nat)) : List (Nat × Operand) -> Option (List (Nat × Nat × RX))
 | [] => some []
 | (i, x) :: l => match place i, rx x, kX place l with
   | some (o, n), some x, some l => some ((o, n, x) :: l)
   | _, _, _ => none
def fQ (z : List D) : Nat -> List D
 | 0 => []
 | n + 1 => z ++ fQ z n
def vE (iU : TypeId -> Option (List LK)) : List Field -> Nat -> Option (List LK)
 | [], _ => some []
 | f :: fs, acc => match iU f.type with
   | some ks => bif Nat.beq f.offset acc && Nat.beq (P.cellsOf f.type) ks.length then match vE iU fs (acc + ks.length) with
      | some r => some (ks ++ r)
      | none => none
     else none
   | none => none
def vN (ks : List LK) : Nat -> List LK
 | 0 => []
 | n + 1 => ks ++ vN ks n
def iU : Nat -> TypeId -> Option (List LK)
 | 0, _ => none
 | d + 1, t => match P.underlying t with
   | some .bool => some [.b]
   | some (.int k) => some [.i k]
   | some (.struct fs) => match vE P (iU d) fs.toList 0 with
     | some ks => bif Nat.beq (P.cellsOf t) ks.length && fs.all (·.name != "_") then some ks else none
     | none => none
   | some (.array n e) => match iU d e with
     | some ks => bif Nat.beq (P.cellsOf t) (n * ks.length) && Nat.beq (P.cellsOf e) ks.length then some (vN ks n) else none
     | none => none
   | _ => none
def dM (t : TypeId) : Option (List LK) :=
 match dS P t with
 | some true => bif P.keyTypeAt 20 t && !P.eqGuardType P.depth t then iU P 20 t else none
 | _ => none
def iW (t : TypeId) : Option Nat :=
 match P.underlying t with
 | some .bool => some 0
 | some (.slice _) => some 1
 | some (.func ..) => some 2
 | some (.map ..) => some 3
 | some (.pointer _) => some 4
 | _ => none
def aH (nt : Nat) (o : Oper) : Option RO :=
 match o.op with
 | .move x => match o.dst, rx x with
   | some s, some x => (aU nt s).map fun d => .mv d x
   | _, _ => none
 | .assign x => match o.dst, rx x with
   | some s, some x => (aU nt s).map fun d => .mv d x
   | _, _ => none
 | .pick c a b => match o.dst, rx c, rx a, rx b with
   | some s, some c, some a, some b => (aU nt s).map fun d => .pick d c a b
   | _, _, _, _ => none
 | .alloc t => match o.dst, eC P t with
   | some s, some zs => (aU nt s).map fun d => .new d zs
   | _, _ => none
 | .box _ x => match o.dst, rx x with
   | some s, some x => (aU nt s).map fun d => .box d x
   | _, _ => none
 | .build t ps => match o.dst, eC P t, uE P t with
   | some s, some zs, some pl => match kX pl ps.toList with
     | some ps => (aU nt s).map fun d => .bld d zs ps
     | none => none
   | _, _, _ => none
 | .buildSlice t len ps => match o.dst, iE P t with
   | some s, some (el, n) => match eC P el, kX (fun i => some (i * n, n)) ps.toList with
     | some z, some ps => bif Nat.ble (len * n) 16777216 && Nat.beq z.length n then (aU nt s).map fun d => .bsl d n len (fQ z len) ps else none
     | _, _ => none
   | _, _ => none
 | .load t x => match o.dst, rx x, dS P t, cT P t with
   | some s, some x, some true, some n => (aU nt s).map fun d => .ldn d x n
   | some s, some x, some false, some _ => (aU nt s).map fun d => .ld1 d x
   | _, _, _, _ => none
 | .store t x y => match o.dst, rx x, rx y, cT P t with
   | none, some x, some y, some (n + 1) => some (.st x y (n + 1))
   | _, _, _, _ => none
 | .nilCheck x => match o.dst, rx x with
   | some s, some x => (aU nt s).map fun d => .nilc d x
   | _, _ => none
 | .binOp op t x y _ => match o.dst, rx x, rx y with
   | some s, some x, some y => match P.underlying t with
     | some (.int _) => (aU nt s).map fun d => .bin d op x y
     | _ => match op, dM P t with
       | .eql, some ks => (aU nt s).map fun d => .eqr d false ks x y
       | .neq, some ks => (aU nt s).map fun d => .eqr d true ks x y
       | .eql, none => match iW P t with
         | some tk => (aU nt s).map fun d => .eq d false tk x y
         | none => none
       | .neq, none => match iW P t with
         | some tk => (aU nt s).map fun d => .eq d true tk x y
         | none => none
       | _, _ => none
   | _, _, _ => none
 | .unOp op _ x => match o.dst, rx x with
   | some s, some x => (aU nt s).map fun d => .un d op x
   | _, _ => none
 | .convert s' t x => match o.dst, rx x, P.underlying s', P.underlying t with
   | some s, some x, some (.int _), some (.int k) => (aU nt s).map fun d => .cvi d k x
   | _, _, _, _ => none
 | .makeFunc (.func f) first caps => match o.dst, oN f, BP first.toList, BP caps.toList with
   | some s, some f, some a, some b => (aU nt s).map fun d => .fnl d f a b
   | _, _, _, _ => none
 | .makeMap _ none => match o.dst with
   | some s => (aU nt s).map fun d => .mkm d
   | none => none
 | .makeSlice t l c => match o.dst, iE P t, rx l, rx c with
   | some s, some (el, n), some l, some c => match eC P el, P.info? el with
     | some z, some i => bif Nat.ble i.bytes 65536 && Nat.beq z.length n then (aU nt s).map fun d => .mks d n z l c else none
     | _, _ => none
   | _, _, _, _ => none
 | .slice t x lo hi mx => match o.dst, rx x, xT lo, xT hi, xT mx with
   | some s, some x, some lo, some hi, some mx => bif hi.isNone && mx.isSome then none else match P.underlying t with
     | some (.slice el) => match cT P el with
       | some n => (aU nt s).map fun d => .slc d n x lo hi mx
       | none => none
     | some (.array len el) => match cT P el with
       | some n => (aU nt s).map fun d => .sla d len n x lo hi mx
       | none => none
     | _ => none
   | _, _, _, _, _ => none
 | .fieldAddr t x f => match o.dst, rx x, iH P t f with
   | some s, some x, some (k, ft) => match cT P ft with
     | some (_ + 1) => (aU nt s).map fun d => .fad d x k
     | _ => none
   | _, _, _ => none
 | .field t x f => match o.dst, rx x, iH P t f with
   | some s, some x, some (k, ft) => match dS P ft, cT P ft with
     | some row, some n => (aU nt s).map fun d => .fld d x k n row
     | _, _ => none
   | _, _, _ => none
 | .indexAddr t x i => match o.dst, rx x, rx i, P.underlying t with
   | some s, some x, some i, some (.slice el) => match cT P el with
     | some n => (aU nt s).map fun d => .ixs d n x i
     | none => none
   | some s, some x, some i, some (.array len el) => match cT P el with
     | some n => (aU nt s).map fun d => .ixa d len n x i
     | none => none
   | _, _, _, _ => none
 | .lookup t x i ok => match o.dst, rx x, rx i, P.underlying t with
   | some s, some x, some i, some (.map k el) => match zQ P el, dM P k with
     | some zero, some ks => (aU nt s).map fun d => .lkp d zero ok ks x i
     | _, _ => none
   | _, _, _, _ => none
 | .mapUpdate t m i v => match o.dst, rx m, rx i, rx v, P.underlying t with
   | none, some m, some i, some v, some (.map k _) => match dM P k with
     | some ks => some (.mup ks m i v)
     | none => none
   | _, _, _, _, _ => none
 | .insert t m i v => match o.dst, rx m, rx i, rx v, P.underlying t with
   | none, some m, some i, some v, some (.map k _) => match dM P k with
     | some ks => some (.mup ks m i v)
     | none => none
   | _, _, _, _, _ => none
 | .extract x n => match o.dst, rx x with
   | some s, some x => (aU nt s).map fun d => .ext d x n
   | _, _ => none
 | .index t x i => match o.dst, rx x, rx i with
   | some s, some x, some i => match P.underlying t with
     | some (.array len el) => match dS P el, cT P el with
       | some row, some z => (aU nt s).map fun d => .ixv d len z row x i
       | _, _ => none
     | some .string => (aU nt s).map fun d => .ixt d x i
     | _ => none
   | _, _, _ => none
 | .call c => match c.callee with
   | .value (.func f) => match oN f, BP c.args.toList with
     | some f, some xs => match o.dst with
       | none => some (.cf none f xs)
       | some s => (aU nt s).map fun d => .cf (some d) f xs
     | _, _ => none
   | .value x => match rx x, BP c.args.toList with
     | some x, some xs => match o.dst with
       | none => some (.cv none x xs)
       | some s => (aU nt s).map fun d => .cv (some d) x xs
     | _, _ => none
   | .builtin .len => match o.dst, c.args.toList, c.argTypes.toList with
     | some s, [x], [t] => match rx x, P.underlying t with
       | some x, some (.slice _) => (aU nt s).map fun d => .len d x
       | _, _ => none
     | _, _, _ => none
   | .builtin .cap => match o.dst, c.args.toList, c.argTypes.toList with
     | some s, [x], [t] => match rx x, P.underlying t with
       | some x, some (.slice _) => (aU nt s).map fun d => .cap d x
       | _, _ => none
     | _, _, _ => none
   | .builtin .append => match o.dst, c.args.toList, c.argTypes.toList with
     | some s, [x, y], [t, t'] => match rx x, rx y, iE P t, P.underlying t' with
       | some x, some y, some (el, n), some (.slice _) => match eC P el, P.info? el with
         | some z, some i => bif Nat.beq z.length n && Nat.ble i.bytes 65536 then (aU nt s).map fun d => .app d n x y else none
         | _, _ => none
       | some x, some y, some (el, n), some (.int _) => match eC P el, P.info? el with
         | some z, some i => bif Nat.beq z.length n && Nat.ble i.bytes 65536 then (aU nt s).map fun d => .apn d n z x y else none
         | _, _ => none
       | _, _, _, _ => none
     | _, _, _ => none
   | .builtin .copy => match c.args.toList, c.argTypes.toList with
     | [x, y], [t, t'] => match rx x, rx y, iE P t, P.underlying t' with
       | some x, some y, some (_, n), some (.slice _) => match o.dst with
         | none => some (.cpy none n x y)
         | some s => (aU nt s).map fun d => .cpy (some d) n x y
       | _, _, _, _ => none
     | _, _ => none
   | .builtin .clear => match o.dst, c.args.toList, c.argTypes.toList with
     | none, [x], [t] => match rx x, iE P t with
       | some x, some (el, n) => match eC P el with
         | some z => bif Nat.beq z.length n then some (.clr n z x) else none
         | _ => none
       | _, _ => none
     | _, _, _ => none
   | .builtin .max => match o.dst, c.args.toList, c.argTypes.toList with
     | some s, [x, y], _ => match rx x, rx y with
       | some x, some y => (aU nt s).map fun d => .mx d x y
       | _, _ => none
     | _, _, _ => none
   | .builtin .min => match o.dst, c.args.toList, c.argTypes.toList with
     | some s, [x, y], _ => match rx x, rx y with
       | some x, some y => (aU nt s).map fun d => .mn d x y
       | _, _ => none
     | _, _, _ => none
   | _ => none
 | _ => none
def eS (nt : Nat) (ops : Array Oper) (o : Oper) : RG :=
 match aH P nt o with
 | none => .u .bad
 | some r => match o.guard with
   | none => .u r
   | some (j, want) => match ops[j]? with
     | some oj => match oj.dst with
       | some t => match oN t with
         | some p => match o.dst with
           | none => .g p want none r
           | some s => match aU nt s with
             | some d => .g p want (some d) r
             | none => .u .bad
         | none => .u .bad
       | none => .u .bad
     | none => .u .bad
def bS (nt : Nat) (ops : Array Oper) : List Oper -> List RG
 | [] => []
 | o :: l => eS P nt ops o :: bS nt ops l
def vW (nt : Nat) (ops : Array Oper) (M : List Nat) : RC :=
 bif P.follows .mixedOrders then (bif dW M 0 ops.toList then (bif dU M 0 (Dd (bS P nt ops ops.toList) ops.toList) then .drw (bS P nt ops ops.toList) M else .reg [.u .bad]) else .reg [.u .bad]) else .reg [.u .bad]
def aY (nt : Nat) : Code -> RC
 | .skip => .skip
 | .label _ => .skip
 | .ret => .ret
 | .exit id => .exit id
 | .region _ ops draw => bif draw then vW P nt ops (dY [] ops.toList) else .reg (bS P nt ops ops.toList)
 | .seq a b => .seq (aY nt a) (aY nt b)
 | .cond c a b => match rx c with
   | some x => .cond x (aY nt a) (aY nt b)
   | none => .reg [.u .bad]
 | .block id c => .blk id (aY nt c)
 | .loop c => .loop (aY nt c)
 | .scope c => aY nt c
 | .rangeFunc f ps a b => match rx f, oX nt ps.toList with
   | some f, some ps => .rf f ps nt a b
   | _, _ => .reg [.u .bad]
 | .goto _ => .reg [.u .bad]
 | .refuse _ => .reg [.u .bad]
def jK : List ResultVar -> Option (List RR)
 | [] => some []
 | .tmp t :: l => match oN t, jK l with
   | some p, some l => some (.t p :: l)
   | _, _ => none
 | .cell a t :: l => match oN a, dS P t, cT P t, jK l with
   | some p, some true, some n, some l => some (.cn p n :: l)
   | some p, some false, some _, some l => some (.c1 p :: l)
   | _, _, _, _ => none
def aA (f : Nat) : Option RF :=
 match P.funcs[f]? with
 | some fn => match fn.body, jK P fn.results.toList with
   | some c, some rs => bif fn.name == "runtime.NumGoroutine" then none else some ⟨fn.ntmps, aY P fn.ntmps c, rs, none, []⟩
   | _, _ => none
 | none => none
end
end Go.Ev
end
