import Derived.Orders
import Derived.OrdersIn
import Derived.RangeFuncCalls
import Derived.RangeFuncNested
import Derived.RangeFuncLeaves
import Derived.Below
import Derived.KernelRfl
import Derived.Deep.MidRow
import Derived.ArgAppend
import Derived.Laws.AppendOwnNone
import Derived.Laws.MakeOwn
import Derived.Deep.AppendSrc
import Derived.Deep.Upon
set_option linter.all false
namespace Go.Ev

/-! ### numbers by their digits -/
inductive Pos where
  | h
  | o (p : Pos)
  | i (p : Pos)
namespace Pos
def nat : Pos → Nat
  | .h => 1
  | .o p => 2 * p.nat
  | .i p => 2 * p.nat + 1
theorem nat_pos : ∀ p : Pos, 0 < p.nat
  | .h => by simp [nat]
  | .o p => by have := nat_pos p; simp [nat]; omega
  | .i p => by simp [nat]
theorem inj : ∀ {p q : Pos}, p.nat = q.nat → p = q
  | .h, .h, _ => rfl
  | .h, .o q, e => by have := nat_pos q; simp [nat] at e; omega
  | .h, .i q, e => by have := nat_pos q; simp [nat] at e; omega
  | .o p, .h, e => by have := nat_pos p; simp [nat] at e; omega
  | .i p, .h, e => by have := nat_pos p; simp [nat] at e; omega
  | .o p, .o q, e => by rw [inj (p := p) (q := q) (by simp [nat] at e; omega)]
  | .i p, .i q, e => by rw [inj (p := p) (q := q) (by simp [nat] at e; omega)]
  | .o p, .i q, e => by simp [nat] at e; omega
  | .i p, .o q, e => by simp [nat] at e; omega
def ix (p : Pos) : Nat := p.nat - 1
theorem ix_inj {p q : Pos} (h : p.ix = q.ix) : p = q := inj (by have := nat_pos p; have := nat_pos q; unfold ix at h; omega)
def succ : Pos → Pos
  | .h => .o .h
  | .o p => .i p
  | .i p => .o p.succ
theorem succ_nat : ∀ p : Pos, p.succ.nat = p.nat + 1
  | .h => rfl
  | .o p => by simp [succ, nat]
  | .i p => by have := succ_nat p; simp [succ, nat]; omega
theorem succ_ne (p : Pos) : p.succ ≠ p := fun e => by have := succ_nat p; rw [e] at this; omega
/-- The next number, worked out before it is handed on. -/
noncomputable def succK {β : Type} (p : Pos) : (Pos → β) → β :=
  Pos.rec (fun k => k (.o .h)) (fun p _ k => k (.i p)) (fun _ ih k => ih fun q => k (.o q)) p
theorem succK_eq {β : Type} : ∀ (p : Pos) (k : Pos → β), succK p k = k p.succ
  | .h, _ => rfl
  | .o _, _ => rfl
  | .i p, k => succK_eq p fun q => k (.o q)
noncomputable def beq (p : Pos) : Pos → Bool :=
  Pos.rec (fun q => Pos.casesOn q true (fun _ => false) (fun _ => false)) (fun _ ih q => Pos.casesOn q false ih (fun _ => false)) (fun _ ih q => Pos.casesOn q false (fun _ => false) ih) p
theorem beq_iff : ∀ {p q : Pos}, beq p q = true ↔ p = q
  | .h, .h => by simp [beq]
  | .h, .o q => by simp [beq]
  | .h, .i q => by simp [beq]
  | .o p, .h => by simp [beq]
  | .i p, .h => by simp [beq]
  | .o p, .o q => by show beq p q = true ↔ _; rw [beq_iff]; simp
  | .i p, .i q => by show beq p q = true ↔ _; rw [beq_iff]; simp
  | .o p, .i q => by simp [beq]
  | .i p, .o q => by simp [beq]
theorem beq_self (p : Pos) : beq p p = true := beq_iff.2 rfl
theorem beq_ne {p q : Pos} (h : p ≠ q) : beq p q = false := by
  cases hb : beq p q with
  | false => rfl
  | true => exact absurd (beq_iff.1 hb) h
noncomputable instance : DecidableEq Pos := fun p q => if h : beq p q = true then isTrue (beq_iff.1 h) else isFalse fun e => h (beq_iff.2 e)
end Pos

/-! ### finite maps by number -/
inductive T (α : Type) where
  | e
  | n (l : T α) (v : Option α) (r : T α)
namespace T
variable {α : Type}
noncomputable def get (t : T α) : Pos → Option α :=
  T.rec (fun _ => none) (fun _ v _ gl gr p => Pos.casesOn p v gl gr) t
theorem get_e (p : Pos) : (T.e : T α).get p = none := rfl
theorem get_h (l r : T α) (v : Option α) : (T.n l v r).get .h = v := rfl
theorem get_o (l r : T α) (v : Option α) (p : Pos) : (T.n l v r).get (.o p) = l.get p := rfl
theorem get_i (l r : T α) (v : Option α) (p : Pos) : (T.n l v r).get (.i p) = r.get p := rfl
def set : Pos → α → T α → T α
  | .h, x, .e => .n .e (some x) .e
  | .h, x, .n l _ r => .n l (some x) r
  | .o p, x, .e => .n (set p x .e) none .e
  | .o p, x, .n l v r => .n (set p x l) v r
  | .i p, x, .e => .n .e none (set p x .e)
  | .i p, x, .n l v r => .n l v (set p x r)
/-- 'set', worked out before it is handed on. -/
noncomputable def setK {β : Type} (p : Pos) (x : α) : T α → (T α → β) → β :=
  Pos.rec (fun t k => T.casesOn t (k (.n .e (some x) .e)) (fun l _ r => k (.n l (some x) r)))
    (fun _ ih t k => T.casesOn t (ih .e fun l => k (.n l none .e)) (fun l v r => ih l fun l => k (.n l v r)))
    (fun _ ih t k => T.casesOn t (ih .e fun r => k (.n .e none r)) (fun l v r => ih r fun r => k (.n l v r))) p
theorem setK_eq {β : Type} : ∀ (p : Pos) (x : α) (t : T α) (k : T α → β), setK p x t k = k (set p x t)
  | .h, x, .e, k => rfl
  | .h, x, .n _ _ _, k => rfl
  | .o p, x, .e, k => setK_eq p x .e fun l => k (.n l none .e)
  | .o p, x, .n l v r, k => setK_eq p x l fun l => k (.n l v r)
  | .i p, x, .e, k => setK_eq p x .e fun r => k (.n .e none r)
  | .i p, x, .n l v r, k => setK_eq p x r fun r => k (.n l v r)
theorem get_set : ∀ (p : Pos) (x : α) (t : T α) (q : Pos), (set p x t).get q = if q = p then some x else t.get q
  | .h, x, .e, q => by cases q <;> simp [set, get_h, get_o, get_i, get_e]
  | .h, x, .n _ _ _, q => by cases q <;> simp [set, get_h, get_o, get_i]
  | .o p, x, .e, q => by cases q <;> simp [set, get_h, get_o, get_i, get_e, get_set p]
  | .o p, x, .n l v r, q => by cases q <;> simp [set, get_h, get_o, get_i, get_set p]
  | .i p, x, .e, q => by cases q <;> simp [set, get_h, get_o, get_i, get_e, get_set p]
  | .i p, x, .n l v r, q => by cases q <;> simp [set, get_h, get_o, get_i, get_set p]
theorem get_set_same (p : Pos) (x : α) (t : T α) : (set p x t).get p = some x := by rw [get_set, if_pos rfl]
theorem get_set_ne {p q : Pos} (h : q ≠ p) (x : α) (t : T α) : (set p x t).get q = t.get q := by rw [get_set, if_neg h]
end T

/-! ### what a value reads as -/
inductive D where
  | any
  | b (x : Bool)
  | i (k : IntKind) (n : Int)
  | s (x : ByteArray)
  | np
  | nf
  | ni
  | nm
  | ns
  | pt (id : Pos) (off st : Nat)
  | sl (id : Pos) (off len st z : Nat)
  | em
  | mp (id : Pos)
  | yl (id : Pos)
  | ag (cs : List D)
  | tp (vs : List D)
  | fn (f : Pos) (first caps : List D)
  | ifc (t : Nat) (v : D)
  | lst (z : Nat) (es : List (List D))
  | pl (r : List D) (k : Nat)

/-- Where the objects lie: how many stamps each has (0: it is not there yet), and at each stamp its block, and what to take off its offsets; and the blocks that are written no more. -/
structure Gh where
  cur : Pos → Nat
  β : Pos → Nat → Nat × Nat
  im : Nat → Prop

mutual
def DV (γ : Gh) (w : World) : D → Value → Prop
  | .any, _ => True
  | .b x, v => v = .bool x
  | .i k n, v => v = .int k n
  | .s x, v => v = .string x
  | .np, v => v = .pointer none
  | .nf, v => v = .nilFunc
  | .ni, v => v = .nilIface
  | .nm, v => v = .map none
  | .ns, v => v = .slice none 0 0
  | .pt id off st, v => st < γ.cur id ∧ (γ.β id st).2 ≤ off ∧ v = .pointer (some ⟨(γ.β id st).1, off - (γ.β id st).2, none⟩)
  | .sl id off len st z, v => st < γ.cur id ∧ (γ.β id st).2 ≤ off ∧ ∃ cap e n, v = .slice (some ⟨(γ.β id st).1, off - (γ.β id st).2, none⟩) len cap ∧ len ≤ cap ∧ w.shape? (γ.β id st).1 = some (e, n) ∧ off - (γ.β id st).2 + cap * z ≤ n
  | .em, v => ∃ a, v = .slice (some a) 0 0
  | .mp id, v => 0 < γ.cur id ∧ v = .map (some (γ.β id 0).1)
  | .yl id, v => 0 < γ.cur id ∧ v = .func (.yield (γ.β id 0).1) #[] #[]
  | .ag cs, v => ∃ vs : Array Value, v = .agg vs ∧ DVL γ w cs vs.toList ∧ ∀ u ∈ vs.toList, u.oneCell' = true
  | .tp cs, v => ∃ vs : Array Value, v = .tuple vs ∧ DVL γ w cs vs.toList
  | .fn f x y, v => ∃ vx vy : Array Value, v = .func (.func f.ix) vx vy ∧ DVL γ w x vx.toList ∧ DVL γ w y vy.toList
  | .ifc t d, v => ∃ u, v = .iface t u ∧ DV γ w d u
  | .lst z es, v => ∃ p cap, v = .slice p es.length cap ∧ es.length ≤ cap ∧ (p = none → cap = 0) ∧ (es = [] ∨ ∃ b o vs e fr, γ.im b ∧ w.heap[b]? = some (.cells vs e fr) ∧ p = some ⟨b, o, none⟩ ∧ o + es.length * z ≤ vs.size ∧ DVE γ w z es (vs.toList.drop o) ∧ ∀ u ∈ (vs.toList.drop o).take (es.length * z), u.oneCell' = true)
  | .pl r k, v => ∃ b o vs e fr, γ.im b ∧ w.heap[b]? = some (.cells vs e fr) ∧ v = .pointer (some ⟨b, o + k, none⟩) ∧ o + r.length ≤ vs.size ∧ DVL γ w r ((vs.toList.drop o).take r.length) ∧ ∀ u ∈ (vs.toList.drop o).take r.length, u.oneCell' = true
def DVE (γ : Gh) (w : World) (z : Nat) : List (List D) → List Value → Prop
  | [], _ => True
  | r :: es, vs => r.length = z ∧ DVL γ w r (vs.take z) ∧ DVE γ w z es (vs.drop z)
def DVL (γ : Gh) (w : World) : List D → List Value → Prop
  | [], vs => vs = []
  | d :: ds, vs => ∃ v r, vs = v :: r ∧ DV γ w d v ∧ DVL γ w ds r
end

/-- What stays of every handle. -/
structure Up (γ γ' : Gh) (w w' : World) : Prop where
  cur : ∀ id, γ.cur id ≤ γ'.cur id
  β : ∀ id st, st < γ.cur id → γ'.β id st = γ.β id st
  sh : ∀ b x, w.shape? b = some x → w'.shape? b = some x
  im : ∀ b, γ.im b → γ'.im b ∧ ∀ o, w.heap[b]? = some o → w'.heap[b]? = some o
theorem Up.refl (γ : Gh) (w : World) : Up γ γ w w := ⟨fun _ => Nat.le_refl _, fun _ _ _ => rfl, fun _ _ h => h, fun _ h => ⟨h, fun _ h => h⟩⟩
theorem Up.trans {a b c : Gh} {u v w : World} (h : Up a b u v) (k : Up b c v w) : Up a c u w :=
  ⟨fun id => Nat.le_trans (h.cur id) (k.cur id), fun id st hs => (k.β id st (Nat.lt_of_lt_of_le hs (h.cur id))).trans (h.β id st hs), fun b x hx => k.sh b x (h.sh b x hx),
    fun b hb => ⟨(k.im b (h.im b hb).1).1, fun o ho => (k.im b (h.im b hb).1).2 o ((h.im b hb).2 o ho)⟩⟩

mutual
theorem DV.mono {γ γ' : Gh} {w w' : World} (U : Up γ γ' w w') : ∀ (d : D) (v : Value), DV γ w d v → DV γ' w' d v
  | .any, _, H => by unfold DV at *; exact H
  | .b _, _, H => by unfold DV at *; exact H
  | .i _ _, _, H => by unfold DV at *; exact H
  | .s _, _, H => by unfold DV at *; exact H
  | .np, _, H => by unfold DV at *; exact H
  | .nf, _, H => by unfold DV at *; exact H
  | .ni, _, H => by unfold DV at *; exact H
  | .nm, _, H => by unfold DV at *; exact H
  | .ns, _, H => by unfold DV at *; exact H
  | .em, _, H => by unfold DV at *; exact H
  | .pt id off st, _, H => by
    unfold DV at *
    obtain ⟨h1, h2, h3⟩ := H
    rw [U.β id st h1]
    exact ⟨Nat.lt_of_lt_of_le h1 (U.cur id), h2, h3⟩
  | .sl id off len st z, _, H => by
    unfold DV at *
    obtain ⟨h1, h2, cap, e, n, h3, h4, h5, h6⟩ := H
    rw [U.β id st h1]
    exact ⟨Nat.lt_of_lt_of_le h1 (U.cur id), h2, cap, e, n, h3, h4, U.sh _ _ h5, h6⟩
  | .mp id, _, H => by
    unfold DV at *
    obtain ⟨h1, h2⟩ := H
    rw [U.β id 0 h1]
    exact ⟨Nat.lt_of_lt_of_le h1 (U.cur id), h2⟩
  | .yl id, _, H => by
    unfold DV at *
    obtain ⟨h1, h2⟩ := H
    rw [U.β id 0 h1]
    exact ⟨Nat.lt_of_lt_of_le h1 (U.cur id), h2⟩
  | .ag cs, _, H => by
    unfold DV at *
    obtain ⟨vs, h1, h2, h3⟩ := H
    exact ⟨vs, h1, DVL.mono U cs _ h2, h3⟩
  | .tp cs, _, H => by
    unfold DV at *
    obtain ⟨vs, h1, h2⟩ := H
    exact ⟨vs, h1, DVL.mono U cs _ h2⟩
  | .fn _ x y, _, H => by
    unfold DV at *
    obtain ⟨vx, vy, h1, h2, h3⟩ := H
    exact ⟨vx, vy, h1, DVL.mono U x _ h2, DVL.mono U y _ h3⟩
  | .ifc _ d, _, H => by
    unfold DV at *
    obtain ⟨u, h1, h2⟩ := H
    exact ⟨u, h1, DV.mono U d u h2⟩
  | .lst z es, _, H => by
    unfold DV at *
    obtain ⟨p, cap, h1, h2, h3, h4⟩ := H
    refine ⟨p, cap, h1, h2, h3, ?_⟩
    rcases h4 with h4 | ⟨b, o, vs, e, fr, k1, k2, k3, k4, k5, k6⟩
    · exact .inl h4
    · exact .inr ⟨b, o, vs, e, fr, (U.im b k1).1, (U.im b k1).2 _ k2, k3, k4, DVE.mono U z es _ k5, k6⟩
  | .pl ds _, _, H => by
    unfold DV at *
    obtain ⟨b, o, vs, e, fr, k1, k2, k3, k4, k5, k6⟩ := H
    exact ⟨b, o, vs, e, fr, (U.im b k1).1, (U.im b k1).2 _ k2, k3, k4, DVL.mono U ds _ k5, k6⟩
theorem DVE.mono {γ γ' : Gh} {w w' : World} (U : Up γ γ' w w') (z : Nat) : ∀ (es : List (List D)) (vs : List Value), DVE γ w z es vs → DVE γ' w' z es vs
  | [], _, _ => by unfold DVE; trivial
  | r :: es, _, H => by
    unfold DVE at *
    exact ⟨H.1, DVL.mono U r _ H.2.1, DVE.mono U z es _ H.2.2⟩
theorem DVL.mono {γ γ' : Gh} {w w' : World} (U : Up γ γ' w w') : ∀ (ds : List D) (vs : List Value), DVL γ w ds vs → DVL γ' w' ds vs
  | [], _, H => by unfold DVL at *; exact H
  | d :: ds, _, H => by
    unfold DVL at *
    obtain ⟨v, r, h1, h2, h3⟩ := H
    exact ⟨v, r, h1, DV.mono U d v h2, DVL.mono U ds r h3⟩
end

theorem DVL_iff {γ : Gh} {w : World} : ∀ {ds : List D} {vs : List Value}, DVL γ w ds vs ↔ ds.length = vs.length ∧ ∀ (i : Nat) d v, ds[i]? = some d → vs[i]? = some v → DV γ w d v
  | [], vs => by
    unfold DVL
    constructor
    · rintro rfl; simp
    · rintro ⟨h, _⟩; exact List.length_eq_zero_iff.1 h.symm
  | d :: ds, vs => by
    unfold DVL
    constructor
    · rintro ⟨v, r, rfl, h1, h2⟩
      obtain ⟨h3, h4⟩ := DVL_iff.1 h2
      refine ⟨by simp [h3], fun i d' v' hd hv => ?_⟩
      cases i with
      | zero => simp at hd hv; rw [← hd, ← hv]; exact h1
      | succ i => exact h4 i d' v' (by simpa using hd) (by simpa using hv)
    · rintro ⟨h1, h2⟩
      cases vs with
      | nil => simp at h1
      | cons v r => exact ⟨v, r, rfl, h2 0 d v rfl rfl, DVL_iff.2 ⟨by simpa using h1, fun i d' v' hd hv => h2 (i + 1) d' v' (by simpa using hd) (by simpa using hv)⟩⟩
theorem DVL.append {γ : Gh} {w : World} {a b : List D} {x y : List Value} (h1 : DVL γ w a x) (h2 : DVL γ w b y) : DVL γ w (a ++ b) (x ++ y) := by
  obtain ⟨l1, e1⟩ := DVL_iff.1 h1
  obtain ⟨l2, e2⟩ := DVL_iff.1 h2
  refine DVL_iff.2 ⟨by simp [l1, l2], fun i d v hd hv => ?_⟩
  by_cases hi : i < a.length
  · rw [List.getElem?_append_left hi] at hd
    rw [List.getElem?_append_left (by omega)] at hv
    exact e1 i d v hd hv
  · rw [List.getElem?_append_right (by omega)] at hd
    rw [List.getElem?_append_right (by omega)] at hv
    rw [l1] at hd
    exact e2 _ d v hd hv
theorem DVL.take {γ : Gh} {w : World} {a : List D} {x : List Value} (h : DVL γ w a x) (n : Nat) : DVL γ w (a.take n) (x.take n) := by
  obtain ⟨l1, e1⟩ := DVL_iff.1 h
  refine DVL_iff.2 ⟨by simp [l1], fun i d v hd hv => ?_⟩
  by_cases hi : i < n
  · rw [List.getElem?_take_of_lt hi] at hd hv
    exact e1 i d v hd hv
  · rw [List.getElem?_eq_none (by simp; omega)] at hd; cases hd
theorem DVL.drop {γ : Gh} {w : World} {a : List D} {x : List Value} (h : DVL γ w a x) (n : Nat) : DVL γ w (a.drop n) (x.drop n) := by
  obtain ⟨l1, e1⟩ := DVL_iff.1 h
  refine DVL_iff.2 ⟨by simp [l1], fun i d v hd hv => ?_⟩
  rw [List.getElem?_drop] at hd hv
  exact e1 _ d v hd hv
theorem DVL.nil {γ : Gh} {w : World} : DVL γ w [] [] := by unfold DVL; rfl
theorem DVL.cons {γ : Gh} {w : World} {d : D} {v : Value} {ds : List D} {vs : List Value} (h : DV γ w d v) (k : DVL γ w ds vs) : DVL γ w (d :: ds) (v :: vs) := by
  unfold DVL; exact ⟨v, vs, rfl, h, k⟩
theorem DVL.one {γ : Gh} {w : World} {d : D} {v : Value} (h : DV γ w d v) : DVL γ w [d] [v] := DVL.cons h DVL.nil
end Go.Ev
