import Derived.Test.YtkbgaadfednjpaaGreatDoorEvUIt
import Derived.Test.YtkbgaadfednjpaaGreatDoorEvURn
set_option linter.all false
set_option maxHeartbeats 8000000
noncomputable section
namespace Go.Ev
open Go.RowKit (Below Grown)
section
variable {P : Program} {nt : Nat}
open Classical in
theorem xZ {x Z Z' : X} {B : Pos -> Prop} {ro : Option Nat} {so : Pos -> Prop} {γ γ1 : Gh} {a a1 : Act} {w w1 : World} (S : ShrB B Z Z') (hx : ∀ id : Pos, id.nat < x.nx.nat -> B id) (hz : ∀ id : Pos, B id -> id.nat < Z'.nx.nat) (hall : ∀ id, so id) (R : Rep P (eH so) γ a w x) (cst : CSt ro Z.lg γ a w γ1 a1 w1) (rep : Rep P (eH so) γ1 a1 w1 Z) :
 ∃ γ2, CSt ro Z'.lg γ a w γ2 a1 w1 /\ Rep P (eH so) γ2 a1 w1 Z' := by
 have hzero : ∀ id, ¬ B id -> γ.cur id = 0 := fun id hid => R.nx id (hall id) (Nat.not_lt.1 fun h => hid (hx id h))
 let γ2 : Gh := ⟨fun id => if B id then γ1.cur id else 0, γ1.β, fun b => γ1.im b \/ ((∃ id st, ¬ B id /\ st < γ1.cur id /\ (γ1.β id st).1 = b) /\ ∃ vs e fr, w1.heap[b]? = some (.cells vs e fr))⟩
 have c2 : ∀ id, B id -> γ2.cur id = γ1.cur id := fun id hid => by show (if _ then _ else _) = _; rw [if_pos hid]
 have c2' : ∀ id, ¬ B id -> γ2.cur id = 0 := fun id hid => by show (if _ then _ else _) = _; rw [if_neg hid]
 have lt2 : ∀ id st, st < γ2.cur id -> B id /\ st < γ1.cur id := fun id st hst => by
  by_cases hid : B id
  ·rw [c2 id hid] at hst; exact ⟨hid, hst⟩
  ·rw [c2' id hid] at hst; exact absurd hst (Nat.not_lt_zero _)
 have hob1 : ∀ id c, Z.ob.get id = some c -> HoldsO P γ1 w1 id c := fun id c hc => rep.ob id c (hall id) hc
 have fz : ∀ d d', Fz B Z.ob d d' -> ∀ v, DV γ1 w1 d v -> DV γ2 w1 d' v := fun d d' hf =>
  Fz.ok (γ := γ1) (γ' := γ2) (fun b hb => .inl hb) hob1 (fun id hid => ⟨c2 id hid, rfl⟩) (fun id st vs e fr hid hst hc => .inr ⟨⟨id, st, hid, hst, rfl⟩, vs, e, fr, hc⟩) hf
 have F := cst.fr
 have fresh : ∀ id st, ¬ B id -> st < γ1.cur id -> w.heap.size <= (γ1.β id st).1 := fun id st hid hst => by
  rcases F.new id st (by rw [hzero id hid]; exact Nat.zero_le _) hst with h | ⟨fZ, h, _⟩
  ·exact h
  ·rw [hzero id hid] at h; exact absurd h (Nat.not_lt_zero _)
 have G2 : G ro γ2 a1 w1 := by
  refine ⟨fun id st hst => cst.g.ob id st (lt2 id st hst).2, fun id st id' st' hst hst' he => cst.g.inj id st id' st' (lt2 id st hst).2 (lt2 id' st' hst').2 he, ?_, cst.g.rd, fun b hb => ?_, cst.g.gl.im fun _ h => .inl h⟩
  ·obtain ⟨ms, d1, d2, d3⟩ := cst.g.df
   exact ⟨ms, d1, d2, fun r hr => ⟨(d3 r hr).1, fun id st hst => (d3 r hr).2 id st (lt2 id st hst).2⟩⟩
  ·rcases hb with hb | ⟨⟨id', st', h1, h2, h3⟩, h4⟩
   ·exact ⟨(cst.g.im b hb).1, fun id st hst => (cst.g.im b hb).2 id st (lt2 id st hst).2⟩
   ·refine ⟨h4, fun id st hst e => ?_⟩
    obtain ⟨k1, k2⟩ := lt2 id st hst
    have e : (γ1.β id st).1 = b := e
    obtain ⟨rfl, _⟩ := cst.g.inj id st id' st' k2 h2 (e.trans h3.symm)
    exact h1 k1
 have hw : ∀ {id : Pos}, wrtn Z'.lg id := fun {id} => by rw [S.l']; trivial
 have hwZ : ∀ {id : Pos}, wrtn Z.lg id := fun {id} => by rw [S.l]; trivial
 refine ⟨γ2, ⟨G2, ⟨⟨fun id => ?_, fun id st hst => F.up.β id st hst, F.up.sh, fun b hb => ⟨.inl (F.up.im b hb).1, (F.up.im b hb).2⟩⟩, fun id hn => absurd hw hn, fun b hb hn => F.blk b hb fun id st _ hst => hn id st hw hst, fun id st h1 h2 => F.new id st h1 (lt2 id st h2).2, fun b hb hlt => ?_, F.lp, F.size, F.os, F.tape, F.output, F.fz⟩, cst.sz, cst.dn⟩,
  ⟨fun s d' _ hd => ?_, fun id c' _ hc => ?_, fun id _ hle => c2' id (fun hb => by have := hz id hb; omega), cst.g.gl.im fun _ h => .inl h⟩⟩
 ·by_cases hid : B id
  ·rw [c2 id hid]; exact F.up.cur id
  ·rw [hzero id hid]; exact Nat.zero_le _
 ·rcases hb with hb | ⟨⟨id', st', h1, h2, h3⟩, h4⟩
  ·exact F.imn b hb hlt
  ·have := fresh id' st' h1 h2
   omega
 ·obtain ⟨d, h1, h2⟩ := S.sl s d' hd
  obtain ⟨h3, h4⟩ := rep.sl s d trivial h1
  exact ⟨h3, fz d d' h2 _ h4⟩
 ·obtain ⟨hid, c, h1, h2⟩ := S.ob id c' hc
  have H := hob1 id c h1
  cases h2 with
  | cells hcc =>
    obtain ⟨q0, q1, q2⟩ := H
    refine ⟨q0, (c2 id hid).trans q1, fun st hst => ?_⟩
    obtain ⟨vs, e, fr, q3, q4, q5⟩ := q2 st hst
    refine ⟨vs, e, fr, q3, q4, fun p c' hp hh hd => ?_⟩
    obtain ⟨c, k1, k2, k3⟩ := hcc p c' hp
    obtain ⟨u, k4, k5, k6⟩ := q5 p c k1 (k2 st hh) hd
    exact ⟨u, k4, fz _ _ k3 u k5, k6⟩
  | map hl hm =>
    obtain ⟨q1, en, cl, q2, q3, q4⟩ := H
    refine ⟨(c2 id hid).trans q1, en, cl, q2, by rw [<- hl]; exact q3, fun i e' f he' hf => ?_⟩
    rename_i es es'
    have hi : i < es.length := by rw [hl]; exact (List.getElem?_eq_some_iff.1 he').1
    obtain ⟨k1, k2⟩ := hm i _ e' (List.getElem?_eq_getElem hi) he'
    obtain ⟨k3, k4⟩ := q4 i _ f (List.getElem?_eq_getElem hi) hf
    exact ⟨fz _ _ k1 _ k3, fz _ _ k2 _ k4⟩
  | lp hsl =>
    obtain ⟨q1, l, q2, q3, q4, q5, q6⟩ := H
    refine ⟨(c2 id hid).trans q1, l, q2, q3, q4, fun s d' hs => ?_, q6⟩
    obtain ⟨d, k1, k2⟩ := hsl s d' hs
    exact ⟨(q5 s d k1).1, fz _ _ k2 _ (q5 s d k1).2⟩
  | hole => exact (c2 id hid).trans H
theorem GO : ∀ c : Code, ∃ c', aY P nt c' = aY P nt c /\ (∀ d, c' ≠ .scope d) /\ ∀ {F : Fence} {n : Nat} {Q : Exit -> Act -> World -> Prop} {a : Act} {w : World}, ∃ Q' : Exit -> Act -> World -> Prop, (∀ (e : Ex) a w, Q e.to a w -> Q' e.to a w) /\ (c'.wpIn F n P Q' a w -> c.wpIn F n P Q a w)
 | .scope c => let ⟨c', h1, h2, h3⟩ := GO c; ⟨c', h1, h2, fun {F n Q a w} => by
   obtain ⟨Q', k1, k2⟩ := h3 (F := F) (n := n) (Q := Exit.noGoto Q) (a := a) (w := w)
   exact ⟨Q', fun e a w h => k1 e a w (by cases e <;> exact h), fun h => eW (k2 h)⟩⟩
 | .skip => ⟨.skip, rfl, (fun _ h => by cases h), fun {F n Q a w} => ⟨Q, fun _ _ _ h => h, fun h => h⟩⟩
 | .label l => ⟨.label l, rfl, (fun _ h => by cases h), fun {F n Q a w} => ⟨Q, fun _ _ _ h => h, fun h => h⟩⟩
 | .ret => ⟨.ret, rfl, (fun _ h => by cases h), fun {F n Q a w} => ⟨Q, fun _ _ _ h => h, fun h => h⟩⟩
 | .exit i => ⟨.exit i, rfl, (fun _ h => by cases h), fun {F n Q a w} => ⟨Q, fun _ _ _ h => h, fun h => h⟩⟩
 | .region i o d => ⟨.region i o d, rfl, (fun _ h => by cases h), fun {F n Q a w} => ⟨Q, fun _ _ _ h => h, fun h => h⟩⟩
 | .seq a b => ⟨.seq a b, rfl, (fun _ h => by cases h), fun {F n Q a w} => ⟨Q, fun _ _ _ h => h, fun h => h⟩⟩
 | .cond c a b => ⟨.cond c a b, rfl, (fun _ h => by cases h), fun {F n Q a w} => ⟨Q, fun _ _ _ h => h, fun h => h⟩⟩
 | .block i a => ⟨.block i a, rfl, (fun _ h => by cases h), fun {F n Q a w} => ⟨Q, fun _ _ _ h => h, fun h => h⟩⟩
 | .loop a => ⟨.loop a, rfl, (fun _ h => by cases h), fun {F n Q a w} => ⟨Q, fun _ _ _ h => h, fun h => h⟩⟩
 | .rangeFunc f p a b => ⟨.rangeFunc f p a b, rfl, (fun _ h => by cases h), fun {F n Q a w} => ⟨Q, fun _ _ _ h => h, fun h => h⟩⟩
 | .goto l => ⟨.goto l, rfl, (fun _ h => by cases h), fun {F n Q a w} => ⟨Q, fun _ _ _ h => h, fun h => h⟩⟩
 | .refuse s => ⟨.refuse s, rfl, (fun _ h => by cases h), fun {F n Q a w} => ⟨Q, fun _ _ _ h => h, fun h => h⟩⟩
structure SeqZ (P : Program) (nt : Nat) (c : RC) (x : X) (K : Ex -> X -> Prop) (e : Ex) (z : X) : Prop where
 ok : e = .normal /\ ∃ z' B, ShrB B z z' /\ (∀ id : Pos, id.nat < x.nx.nat -> B id) /\ (∀ id : Pos, B id -> id.nat < z'.nx.nat) /\ x.nx.nat <= z'.nx.nat /\ Rn P nt c z' K
end
theorem WB.decT {p : Prop} [Decidable p] {F : Bool -> Prop} (h : p) (k : F true) : WB (decide p) F := WB.of (by rw [decide_eq_true h]; exact k)
theorem WB.decF {p : Prop} [Decidable p] {F : Bool -> Prop} (h : ¬ p) (k : F false) : WB (decide p) F := WB.of (by rw [decide_eq_false h]; exact k)
theorem WB.ndT {p : Prop} [Decidable p] {F : Bool -> Prop} (h : p) (k : F false) : WB (!decide p) F := WB.of (by rw [decide_eq_true h]; exact k)
theorem WB.ndF {p : Prop} [Decidable p] {F : Bool -> Prop} (h : ¬ p) (k : F true) : WB (!decide p) F := WB.of (by rw [decide_eq_false h]; exact k)
theorem WB.nt {F : Bool -> Prop} (k : F false) : WB (!true) F := WB.of k
theorem WB.nf {F : Bool -> Prop} (k : F true) : WB (!false) F := WB.of k
theorem WB.at' {b c : Bool} {F : Bool -> Prop} (h : b = c) (k : F c) : WB b F := WB.of (by rw [h]; exact k)
theorem Qm {p : Prop} [Decidable p] {F : Bool -> Prop} (k : F true) (h : p := by first | rfl | assumption | omega | exact ⟨rfl, rfl⟩) : WB (decide p) F := WB.decT h k
theorem Qn {p : Prop} [Decidable p] {F : Bool -> Prop} (k : F false) (h : ¬ p := by first | assumption | omega) : WB (decide p) F := WB.decF h k
theorem Qo {p : Prop} [Decidable p] {F : Bool -> Prop} (k : F false) (h : p := by first | rfl | assumption | omega | exact ⟨rfl, rfl⟩) : WB (!decide p) F := WB.ndT h k
theorem Qp {p : Prop} [Decidable p] {F : Bool -> Prop} (k : F true) (h : ¬ p := by first | assumption | omega) : WB (!decide p) F := WB.ndF h k
theorem Qy {p q : Prop} (k : q) (h : q -> p := by with_reducible (first | exact WB.decT (by first | rfl | assumption | omega | exact ⟨rfl, rfl⟩) | exact WB.decF (by first | assumption | omega) | exact WB.ndT (by first | rfl | assumption | omega | exact ⟨rfl, rfl⟩) | exact WB.ndF (by first | assumption | omega) | exact WB.nt | exact WB.nf)) : p := h k
theorem Qw {p q : Prop} (k : q) (h : q -> p := by first | with_reducible (first | exact WB.tt | exact WB.ff) | exact Qa rfl | exact Rn.cond rfl | exact Oi (by omega) (by omega) | exact NB (by omega) | exact WIx.intsN (by omega) | exact WIx.rowsN (by omega) | with_reducible (first | exact WB.decT (by first | rfl | assumption | omega | exact ⟨rfl, rfl⟩) | exact WB.decF (by first | assumption | omega) | exact WB.ndT (by first | rfl | assumption | omega | exact ⟨rfl, rfl⟩) | exact WB.ndF (by first | assumption | omega) | exact WB.nt | exact WB.nf)) : p := h k
theorem Qd {b : Bool} {F : Bool -> Prop} {p n : Prop} (k1 : p -> F true) (k0 : n -> F false) (h : (p -> F true) -> (n -> F false) -> WB b F := by first | with_reducible (first | exact fun a b => WB.dec a b | exact fun a b => WB.ndec a b) | exact fun a b => WB.mk a b) : WB b F := h k1 k0
theorem Qv {p q : Prop} (k : q) (h : q -> p := by first | exact WB.tt | exact WB.ff) : p := h k
open Go.RowKit (Below Grown)
section
variable {ob : T C}
end
section
variable {P : Program} {FP : T RF}
end
set_option maxRecDepth 100000
def jA (n a b : Int) : Bool := decide (a <= n /\ n <= b)
theorem mL (l : List Int) : ∀ r ∈ ints l, r.length = 1 := fun r hr => by
 obtain ⟨n, _, rfl⟩ := List.mem_map.1 hr
 rfl
theorem WSt.ixaN {sl : T D} {ob : T C} {nx : Pos} {lg : Option (T Bool)} {K : X -> Prop} {d id : Pos} {len z off st m : Nat} {k : IntKind} {x i : RX} {n : Int} (hx : bC sl x = some (.pt id off st)) (hi : bC sl i = some (.i k n)) (hn : n = (m : Int)) (hm : m < len) (h : dG sl ob nx lg d K (.pt id (off + m * z) st)) : WSt (.ixa d len z x i) ⟨sl, ob, nx, lg⟩ K := by
 obtain ⟨h2, h3⟩ := aT h
 refine ⟨_, ?_, h3⟩
 show sX d len z x i sl ob nx lg = _
 unfold sX
 rw [hx, hi, hn]
 have e : EZ (m : Int) len = some m := by
  show (bif Nat.blt m len then some m else none) = _
  rw [show Nat.blt m len = true from Nat.ble_eq_true_of_le hm]
  rfl
 simp only [e, bB]
 exact h2
theorem Frz.ptr {ob : T C} {id : Pos} {st : Nat} {cs : List Cell} {cur : Nat} {r : List D} (h : ob.get id = some (.cells false cs cur)) (hc : cs = r.map fun d => Cell.o d st) (h0 : 0 < r.length) (hp : aN r) : Frz ob (.pt id 0 st) (.pl r 0) := by
 subst hc
 refine .pt (fun h => h) h h0 (fun k d hk => ⟨.o d st, ?_, ?_, rfl⟩) (FzL.of hp)
 ·rw [List.drop_zero, List.getElem?_map, hk]; rfl
 ·show Nat.ble st st = true
  exact Nat.ble_eq_true_of_le (Nat.le_refl _)
theorem T.le_ee {α : Type} {l r : T α} (hl : T.le l .e) (hr : T.le r .e) : T.le (.n l none r) .e := fun p x h => by
 cases p with
 | h => rw [T.get_h] at h; cases h
 | o p => exact absurd (hl p x h) (by rw [T.get_e]; exact fun h => by cases h)
 | i p => exact absurd (hr p x h) (by rw [T.get_e]; exact fun h => by cases h)
theorem KpO.le {n : Nat} {a b : T C} (h : T.le a b) (k : KpO n b) : KpO n a := fun id c hc => k id c (h id c hc)
theorem ShrB.of {B : Pos -> Prop} {z z' : X} (hs : Rel (RS B z.ob) (fun p => p) z'.sl z.sl) (ho : Rel (fun id c c' => B id /\ ShC B z.ob c c') (fun p => p) z'.ob z.ob) (l : z.lg = none) (l' : z'.lg = none) : ShrB B z z' :=
 ⟨fun s d' h => hs s d' h, fun id c' h => by
  obtain ⟨c, h1, h2, h3⟩ := ho id c' h
  exact ⟨h2, c, h1, h3⟩, l, l'⟩
theorem Rel.ee {α : Type} {R : Pos -> α -> α -> Prop} {g : Pos -> Pos} {l r : T α} (hl : Rel R (fun p => g (.o p)) l .e) (hr : Rel R (fun p => g (.i p)) r .e) : Rel R g (.n l Option.none r) .e := fun p x h => by
 cases p with
 | h => rw [T.get_h] at h; cases h
 | o p => obtain ⟨y, h1, _⟩ := hl p x h; rw [T.get_e] at h1; cases h1
 | i p => obtain ⟨y, h1, _⟩ := hr p x h; rw [T.get_e] at h1; cases h1
theorem Fz.grown {B : Pos -> Prop} {ob : T C} {id : Pos} {s1 s2 cur n z : Nat} {ds r : List D} {cs : List Cell} {es : List (List D)} (hB : ¬ B id) (h : ob.get id = some (.cells false cs cur)) (hc : cs = (ds.map fun d => Cell.o d s1) ++ r.map fun d => Cell.o d s2) (hs : s1 <= s2) (he : es.flatten = ds ++ r) (hn : n = es.length) (hz : ∀ x ∈ es, x.length = z) (hp : cG es) : Fz B ob (.sl id 0 n s2 z) (.lst z es) := by
 subst hc
 refine .sl hB h hn.symm hz (fun k d hk => ?_) (FzE.of hp)
 rw [he] at hk
 rw [List.drop_zero]
 by_cases hlt : k < ds.length
 ·rw [List.getElem?_append_left hlt] at hk
  refine ⟨.o d s1, ?_, Nat.ble_eq_true_of_le hs, rfl⟩
  rw [List.getElem?_append_left (by simpa using hlt), List.getElem?_map, hk]; rfl
 ·rw [List.getElem?_append_right (by omega)] at hk
  refine ⟨.o d s2, ?_, Nat.ble_eq_true_of_le (Nat.le_refl _), rfl⟩
  rw [List.getElem?_append_right (by simp; omega), List.length_map, List.getElem?_map, hk]; rfl
theorem sS {β : Type} (new : List D) (k : List Cell -> Option β) : lW 0 1 new 0 [] k = k (new.map fun d => Cell.o d 1) := by
 show mA (Nat.pred 1) (dB (List.length new) []) (fun l => iV (fun d => .o d 1) new l k) = _
 rw [bK, jE, fX]
 simp
theorem WSt.app_emp {sl : T D} {ob : T C} {nx : Pos} {K : X -> Prop} {d id : Pos} {z : Nat} {x y : RX} {es : List (List D)} (hx : bC sl x = some (.sl id 0 0 0 z)) (hox : ob.get id = some (.cells false [] 1)) (hy : bC sl y = some (.lst z es)) (hz : ∀ r ∈ es, r.length = z) (hlen : es.length <= 2147483648)
 (h : ∀ st, T.setK id (.cells false (es.flatten.map fun d => Cell.o d st) (st + 1)) ob fun ob => dG sl ob nx none d K (.sl id 0 es.length st z)) : WSt (.app d z x y) ⟨sl, ob, nx, none⟩ K := by
 have hfl : es.flatten.length = es.length * z := by
  clear hlen hy h
  induction es with
  | nil => simp
  | cons r es ih => simp [ih (fun r h => hz r (by simp [h])), hz r (by simp), Nat.add_mul]; omega
 have hb : (Nat.beq z z && Nat.beq (List.length (List.flatten es)) (Nat.mul (List.length es) z)) = true := by
  rw [hfl]; simp
 cases hk : es.length with
 | zero =>
   have he : es = [] := List.length_eq_zero_iff.1 hk
   subst he
   have h0 := h 0
   rw [T.setK_eq] at h0
   have h0 : dG sl (T.set id (C.cells false [] 1) ob) nx none d K (D.sl id 0 0 0 z) := h0
   rw [T.set_get hox] at h0
   obtain ⟨h2, h3⟩ := aT h0
   refine ⟨_, ?_, h3⟩
   show dP d z x y sl ob nx none = _
   unfold dP
   rw [hx, hy]
   have hb : Nat.beq (List.length (List.flatten ([] : List (List D)))) (Nat.mul 0 z) = true := by simp
   simp only [pI, hb, cond_true, Bool.and_self, rK, List.length_nil, gH, hox, Nat.beq_refl]
   exact h2
 | succ k =>
   have h1 := h 1
   rw [T.setK_eq] at h1
   obtain ⟨h2, h3⟩ := aT h1
   refine ⟨_, ?_, h3⟩
   show dP d z x y sl ob nx none = _
   unfold dP
   rw [hx, hy]
   rw [hk] at hlen h2 hb
   have hle : Nat.ble (Nat.add 0 (Nat.succ k)) 2147483648 = true := Nat.ble_eq_true_of_le (by simpa using hlen)
   have hb : Nat.beq (List.length (List.flatten es)) (Nat.mul (k + 1) z) = true := by rw [hfl, hk]; simp
   have hm : Nat.add 0 (Nat.mul 0 z) = 0 := by show 0 + 0 * z = 0; simp
   simp only [pI, hk, hb, cond_true, rK, Nat.beq_refl, Bool.true_and, hle, hox, hm, sS, bB, eP, rQ, T.setK_eq]
   have e1 : Nat.add 0 (Nat.succ k) = k + 1 := by show 0 + (k + 1) = k + 1; omega
   rw [e1]
   exact h2
section
variable {sl : T D} {ob : T C} {nx : Pos} {K : X -> Prop}
theorem WSt.eqr2 {lg : Option (T Bool)} {d : Pos} {x y : RX} {a b a' b' : Int} (h1 : bC sl x = some (.ag [.i .i64 a, .i .i64 b])) (h2 : bC sl y = some (.ag [.i .i64 a', .i .i64 b'])) (w1 : AU .i64 a = true) (w2 : AU .i64 b = true) (w3 : AU .i64 a' = true) (w4 : AU .i64 b' = true) (k : dG sl ob nx lg d K (.b (decide (a = a' /\ b = b')))) :
 WSt (.eqr d false [.i .i64, .i .i64] x y) ⟨sl, ob, nx, lg⟩ K := by
 obtain ⟨k1, k2⟩ := aT k
 refine ⟨_, ?_, k2⟩
 show sY _ _ _ x y sl ob nx lg = _
 unfold sY
 rw [h1, h2]
 have e : BW [.i .i64, .i .i64] (.ag [.i .i64 a, .i .i64 b]) (.ag [.i .i64 a', .i .i64 b']) = some (decide (a = a' /\ b = b')) := by
  have hk : sI .i64 .i64 = true := rfl
  simp only [BW, Fu, Of, hk, w1, w2, w3, w4, Bool.and_self, cond_true, Option.some.injEq]
  simp only [lN, Bool.decide_and]
  have hb : ∀ a b : Int, (a == b) = decide (a = b) := fun a b => by by_cases h : a = b <;> simp [h]
  simp only [hb, Bool.and_true]
 simp only [e, cond_false, bE]
 exact k1
end
structure FinX (rs : List RR) (Φ : D -> Prop) (e : Ex) (z : X) : Prop where
 ok : ∃ v, Φ v /\ Fin rs v e z
theorem PureF.runE {P : Program} {f nt : Nat} {rc : RC} {rs : List RR} {ds : List D} {Φ : D -> Prop} (F : FnOk P f nt rc rs) (hlen : ds.length <= nt) (hp : aN ds) (h : oV ds .h .e fun sl => Rn P nt rc ⟨sl, .e, .h, none⟩ (FinX rs Φ)) : ∃ v, Φ v /\ PureF P f ds v := by
 obtain ⟨fn, c, hf, hb, hc, hr, hname, h6⟩ := F.ok
 subst h6
 obtain ⟨sl0, h, hsl⟩ := mD h
 obtain ⟨e, ⟨sl, ob1, nx1, lg1⟩, X1, FE⟩ := h.ok c hc
 obtain ⟨v, hΦ, F⟩ := FE.ok
 obtain ⟨u, h1, h2⟩ := F.hr
 obtain ⟨v', ob', nx', lg', h3, C⟩ := nI (k := fun v ob nx lg => some ⟨T.set .h v .e, ob, nx, lg⟩) hf hb hr hname hlen hsl F.he X1 h1
 have h3 := Option.some.inj h3
 have e1 := congrArg (fun t => T.get t .h) (X.mk.inj h3).1
 simp only [T.get_set_same, Option.some.injEq] at e1
 have e2 := (X.mk.inj h3).2.1
 have e3 : ob' = ob1 := e2
 subst e1
 subst e3
 exact ⟨v, hΦ, C.shut hp h2⟩
theorem bW {n a b : Int} (h : jA n a b = true) : a <= n /\ n <= b := by unfold jA at h; exact of_decide_eq_true h
theorem Lw {α : Type} {a b : T α} (h : T.le a b := by repeat' first | exact T.le_e _ | exact T.le_refl _ | refine T.le_some ?_ rfl ?_ | refine T.le_none ?_ ?_ | refine T.le_ee ?_ ?_) : T.le a b := h
section
variable {α : Type}
def BS (id : Pos) (z : Nat) : List α -> D
 | [] => .ns
 | _ :: s => .sl id 0 (s.length + 1) s.length z
def Ez (f : α -> List D) : List α -> Option C
 | [] => none
 | a :: s => some (.cells false ((aO f (a :: s)).flatten.map fun d => Cell.o d s.length) (s.length + 1))
def kE (p q : Pos) : List α -> Pos
 | [] => p
 | _ :: _ => q
variable {f : α -> List D}
theorem rL (A : List α) (x : α) : (aO f (A ++ [x])).flatten = (aO f A).flatten ++ f x := by simp [aO]
theorem eI {z : Nat} (hz : ∀ a, (f a).length = z) (A : List α) : (aO f A).flatten.length = A.length * z := by
 induction A with
 | nil => simp [aO]
 | cons a s ih =>
   show (f a ++ (aO f s).flatten).length = _
   rw [List.length_append, hz, ih, List.length_cons, Nat.add_mul]; omega
theorem hY (hp : ∀ a, aN (f a)) (A : List α) : aN (aO f A).flatten := aS.2 fun d hd => by
 obtain ⟨r, hr, hd⟩ := List.mem_flatten.1 hd
 obtain ⟨a, _, rfl⟩ := List.mem_map.1 hr
 exact aS.1 (hp a) d hd
theorem gV {id : Pos} {z : Nat} (a : α) (s : List α) (x : α) : BS id z (a :: (s ++ [x])) = .sl id 0 (s.length + 1 + 1) (s.length + 1) z := by simp [BS]
theorem hH (a : α) (s : List α) (x : α) : Ez f (a :: (s ++ [x])) = some (.cells false (((aO f (a :: s)).flatten ++ f x).map fun d => Cell.o d (s.length + 1)) (s.length + 1 + 1)) := by
 have h2 : (aO f (a :: (s ++ [x]))).flatten = (aO f (a :: s)).flatten ++ f x := rL (a :: s) x
 show some (Ev.C.cells false ((aO f (a :: (s ++ [x]))).flatten.map fun d => Cell.o d (s ++ [x]).length) ((s ++ [x]).length + 1)) = _
 rw [h2, List.length_append, List.length_singleton]
theorem Fz.G {B : Pos -> Prop} {ob : T C} {id : Pos} {z : Nat} (A : List α) (hB : ¬ B id) (ho : ∀ c, Ez f A = some c -> ob.get id = some c) (hz : ∀ a, (f a).length = z) (hp : ∀ a, aN (f a)) : Fz B ob (BS id z A) (.lst z (aO f A)) := by
 cases A with
 | nil => exact .ns
 | cons a s =>
   refine .sl (cs := (aO f (a :: s)).flatten.map fun d => Cell.o d s.length) hB (ho _ rfl) (by rw [aL]; rfl) (fun r hr => ?_) (fun k d hk => ⟨.o d s.length, ?_, ?_, rfl⟩) (FzE.of (fP hp _))
   ·obtain ⟨a, _, rfl⟩ := List.mem_map.1 hr
    exact hz a
   ·rw [List.drop_zero, List.getElem?_map, hk]; rfl
   ·show Nat.ble s.length s.length = true
    exact Nat.ble_eq_true_of_le (Nat.le_refl _)
theorem ShC.G {B : Pos -> Prop} {ob : T C} (hp : ∀ a, aN (f a)) (a : α) (s : List α) : ShC B ob (.cells false ((aO f (a :: s)).flatten.map fun d => Cell.o d s.length) (s.length + 1)) (.cells false ((aO f (a :: s)).flatten.map fun d => Cell.o d s.length) (s.length + 1)) :=
 ShC.same fun c hc => by
  obtain ⟨d, hd, rfl⟩ := List.mem_map.1 hc
  exact .pu (aS.1 (hY hp _) d hd)
end
open Go.RowKit (Below Grown)
open Classical in
def iX (nx : Pos) (ρ : Pos -> Pos) (γ : Gh) : Gh := ⟨fun j => if j.nat < nx.nat then γ.cur (ρ j) else 0, fun j => γ.β (ρ j), γ.im⟩
def uH (τ : Pos -> Option Pos) (γ γ' : Gh) : Gh := ⟨fun id => match τ id with | some j => γ'.cur j | none => γ.cur id, fun id => match τ id with | some j => γ'.β j | none => γ.β id, γ'.im⟩
structure Ren (nx : Pos) (ρ : Pos -> Pos) (τ : Pos -> Option Pos) : Prop where
 a : ∀ j : Pos, j.nat < nx.nat -> τ (ρ j) = some j
 b : ∀ id j : Pos, τ id = some j -> j.nat < nx.nat /\ ρ j = id
section
variable {nx : Pos} {ρ : Pos -> Pos} {τ : Pos -> Option Pos} {γ γ' : Gh} {w w' : World}
theorem eX {j : Pos} (h : j.nat < nx.nat) : (iX nx ρ γ).cur j = γ.cur (ρ j) := by show (if _ then _ else _) = _; rw [if_pos h]
theorem kH {j : Pos} (h : ¬ j.nat < nx.nat) : (iX nx ρ γ).cur j = 0 := by show (if _ then _ else _) = _; rw [if_neg h]
theorem eB {j : Pos} {st : Nat} (h : st < (iX nx ρ γ).cur j) : j.nat < nx.nat /\ st < γ.cur (ρ j) := by
 by_cases hj : j.nat < nx.nat
 ·rw [eX hj] at h; exact ⟨hj, h⟩
 ·rw [kH hj] at h; exact absurd h (Nat.not_lt_zero _)
theorem mV : ∀ b, γ.im b -> (iX nx ρ γ).im b := fun _ h => h
theorem Ef : ∀ b, γ'.im b -> (uH τ γ γ').im b := fun _ h => h
theorem dX {id j : Pos} (h : τ id = some j) : (uH τ γ γ').cur id = γ'.cur j := by show (match τ id with | some j => _ | none => _) = _; rw [h]
theorem dA {id : Pos} (h : τ id = none) : (uH τ γ γ').cur id = γ.cur id := by show (match τ id with | some j => _ | none => _) = _; rw [h]
theorem gM {id j : Pos} (h : τ id = some j) : (uH τ γ γ').β id = γ'.β j := by show (match τ id with | some j => _ | none => _) = _; rw [h]
theorem jY {id : Pos} (h : τ id = none) : (uH τ γ γ').β id = γ.β id := by show (match τ id with | some j => _ | none => _) = _; rw [h]
theorem Ren.inj (R : Ren nx ρ τ) {i j : Pos} (hi : i.nat < nx.nat) (hj : j.nat < nx.nat) (h : ρ i = ρ j) : i = j := by
 have h1 := R.a i hi
 rw [h, R.a j hj] at h1
 exact (Option.some.inj h1).symm
theorem vB (R : Ren nx ρ τ) (gh : GH γ w) : GH (iX nx ρ γ) w :=
 ⟨fun id st hst => gh.ob _ st (eB hst).2, fun id st id' st' hst hst' he => by
  obtain ⟨h1, h2⟩ := gh.inj _ st _ st' (eB hst).2 (eB hst').2 he
  exact ⟨R.inj (eB hst).1 (eB hst').1 h1, h2⟩, fun b hb => ⟨(gh.im b hb).1, fun id st hst => (gh.im b hb).2 _ st (eB hst).2⟩, gh.gl.im fun _ h => h⟩
theorem FA (R : Ren nx ρ τ) {S : Pos -> Prop} (gh : GH γ w) (F : Fr S (iX nx ρ γ) γ' w w') {j : Pos} {st : Nat} (hj : j.nat < nx.nat) (hst : st < γ'.cur j) : w.heap.size <= (γ'.β j st).1 \/ ∃ fZ, fZ < γ.cur (ρ j) /\ (γ'.β j st).1 = (γ.β (ρ j) fZ).1 := by
 by_cases h : st < (iX nx ρ γ).cur j
 ·rw [F.up.β j st h]
  exact .inr ⟨st, (eB h).2, rfl⟩
 ·rcases F.new j st (Nat.not_lt.1 h) hst with h1 | ⟨fZ, h1, h2⟩
  ·exact .inl h1
  ·exact .inr ⟨fZ, (eB h1).2, h2⟩
theorem Ee (R : Ren nx ρ τ) {S : Pos -> Prop} (gh : GH γ w) (gh' : GH γ' w') (F : Fr S (iX nx ρ γ) γ' w w') : GH (uH τ γ γ') w' := by
 have mix : ∀ id j st id' st', τ id = some j -> τ id' = none -> st < γ'.cur j -> st' < γ.cur id' -> (γ'.β j st).1 ≠ (γ.β id' st').1 := fun id j st id' st' h1 h2 h3 h4 e => by
  obtain ⟨hj, hr⟩ := R.b id j h1
  rcases FA R gh F hj h3 with h5 | ⟨fZ, h5, h6⟩
  ·have := gh.ob id' st' h4; omega
  ·obtain ⟨h7, _⟩ := gh.inj _ fZ id' st' h5 h4 (h6.symm.trans e)
   rw [<- h7, hr, h1] at h2
   cases h2
 refine ⟨fun id st hst => ?_, fun id st id' st' hst hst' he => ?_, fun b hb => ?_, gh'.gl.im fun _ h => h⟩
 ·cases ht : τ id with
  | some j => rw [dX ht] at hst; rw [gM ht]; exact gh'.ob j st hst
  | none => rw [dA ht] at hst; rw [jY ht]; exact Nat.lt_of_lt_of_le (gh.ob id st hst) F.size
 ·cases ht : τ id with
  | some j =>
    rw [dX ht] at hst
    rw [gM ht] at he ⊢
    cases ht' : τ id' with
    | some j' =>
      rw [dX ht'] at hst'
      rw [gM ht'] at he ⊢
      obtain ⟨h1, h2⟩ := gh'.inj j st j' st' hst hst' he
      exact ⟨by rw [<- (R.b id j ht).2, <- (R.b id' j' ht').2, h1], h2⟩
    | none =>
      rw [dA ht'] at hst'
      rw [jY ht'] at he
      exact absurd he (mix id j st id' st' ht ht' hst hst')
  | none =>
    rw [dA ht] at hst
    rw [jY ht] at he ⊢
    cases ht' : τ id' with
    | some j' =>
      rw [dX ht'] at hst'
      rw [gM ht'] at he
      exact absurd he.symm (mix id' j' st' id st ht' ht hst' hst)
    | none =>
      rw [dA ht'] at hst'
      rw [jY ht'] at he ⊢
      exact gh.inj id st id' st' hst hst' he
 ·refine ⟨(gh'.im b hb).1, fun id st hst => ?_⟩
  cases ht : τ id with
  | some j => rw [dX ht] at hst; rw [gM ht]; exact (gh'.im b hb).2 j st hst
  | none =>
    rw [dA ht] at hst; rw [jY ht]
    intro e
    have hlt := gh.ob id st hst
    rw [e] at hlt
    exact (gh.im b (F.imn b hb hlt)).2 id st hst e
theorem Dn (R : Ren nx ρ τ) {S : Pos -> Prop} (F : Fr S (iX nx ρ γ) γ' w w') : Up γ (uH τ γ γ') w w' := by
 refine ⟨fun id => ?_, fun id st hst => ?_, F.up.sh, F.up.im⟩
 ·cases ht : τ id with
  | some j =>
    obtain ⟨hj, hr⟩ := R.b id j ht
    have := F.up.cur j
    rw [eX hj, hr] at this
    rw [dX ht]; exact this
  | none => rw [dA ht]; exact Nat.le_refl _
 ·cases ht : τ id with
  | some j =>
    obtain ⟨hj, hr⟩ := R.b id j ht
    have := F.up.β j st (by rw [eX hj, hr]; exact hst)
    rw [gM ht, this]
    show γ.β (ρ j) st = _
    rw [hr]
  | none => rw [jY ht]
theorem Cx (R : Ren nx ρ τ) {S W : Pos -> Prop} (hW : ∀ id j, τ id = some j -> W id) (F : Fr S (iX nx ρ γ) γ' w w') : Fr W γ (uH τ γ γ') w w' := by
 refine ⟨Dn R F, fun id hn => ?_, fun b hb hn => F.blk b hb fun j st _ hst e => ?_, fun id st h1 h2 => ?_, F.imn, F.lp, F.size, F.os, F.tape, F.output, F.fz⟩
 ·cases ht : τ id with
  | some j => exact absurd (hW id j ht) hn
  | none => exact dA ht
 ·obtain ⟨hj, hst⟩ := eB hst
  exact hn (ρ j) st (hW _ j (R.a j hj)) hst e
 ·cases ht : τ id with
  | some j =>
    obtain ⟨hj, hr⟩ := R.b id j ht
    rw [dX ht] at h2
    rw [gM ht]
    rcases F.new j st (by rw [eX hj, hr]; exact h1) h2 with h3 | ⟨fZ, h3, h4⟩
    ·exact .inl h3
    ·have h3 := (eB h3).2
     rw [hr] at h3
     refine .inr ⟨fZ, h3, ?_⟩
     rw [h4]
     show (γ.β (ρ j) fZ).1 = _
     rw [hr]
  | none => rw [dA ht] at h2; omega
theorem xO (R : Ren nx ρ τ) {P : Program} {S : Pos -> Prop} (gh : GH γ w) (F : Fr S (iX nx ρ γ) γ' w w') {id : Pos} {c : C} (ht : τ id = none) (H : HoldsO P γ w id c) : HoldsO P (uH τ γ γ') w' id c :=
 HoldsO.mono (Dn R F) (dA ht) (fun st hst => F.blk _ (gh.ob id st hst) fun j st' _ hst' e => by
  obtain ⟨hj, hst'⟩ := eB hst'
  obtain ⟨h1, _⟩ := gh.inj _ st' id st hst' hst e
  rw [<- h1, R.a j hj] at ht
  cases ht) H
end
section
variable {γ γ' : Gh} {w : World} {n : Nat}
mutual
theorem DV.kp (him : ∀ b, γ.im b -> γ'.im b) (hc : ∀ id : Pos, id.nat < n -> γ'.cur id = γ.cur id /\ γ'.β id = γ.β id) : ∀ (d : D) (v : Value), Kp n d -> DV γ w d v -> DV γ' w d v
 | .pt id off st, v, p, H => by
   unfold Kp at p
   obtain ⟨h1, h2⟩ := hc id p
   unfold DV at *
   rw [h1, h2]; exact H
 | .sl id off len st z, v, p, H => by
   unfold Kp at p
   obtain ⟨h1, h2⟩ := hc id p
   unfold DV at *
   rw [h1, h2]; exact H
 | .mp id, v, p, H => by
   unfold Kp at p
   obtain ⟨h1, h2⟩ := hc id p
   unfold DV at *
   rw [h1, h2]; exact H
 | .yl id, v, p, H => by
   unfold Kp at p
   obtain ⟨h1, h2⟩ := hc id p
   unfold DV at *
   rw [h1, h2]; exact H
 | .ag cs, _, p, H => by
   unfold Kp at p
   unfold DV at *
   obtain ⟨vs, h1, h2, h3⟩ := H
   exact ⟨vs, h1, DVL.kp him hc cs _ p h2, h3⟩
 | .tp cs, _, p, H => by
   unfold Kp at p
   unfold DV at *
   obtain ⟨vs, h1, h2⟩ := H
   exact ⟨vs, h1, DVL.kp him hc cs _ p h2⟩
 | .fn _ x y, _, p, H => by
   unfold Kp at p
   unfold DV at *
   obtain ⟨vx, vy, h1, h2, h3⟩ := H
   exact ⟨vx, vy, h1, DVL.kp him hc x _ p.1 h2, DVL.kp him hc y _ p.2 h3⟩
 | .any, _, p, H => by unfold Kp at p; exact DV.pu him _ _ p H
 | .b _, _, p, H => by unfold Kp at p; exact DV.pu him _ _ p H
 | .i _ _, _, p, H => by unfold Kp at p; exact DV.pu him _ _ p H
 | .s _, _, p, H => by unfold Kp at p; exact DV.pu him _ _ p H
 | .np, _, p, H => by unfold Kp at p; exact DV.pu him _ _ p H
 | .nf, _, p, H => by unfold Kp at p; exact DV.pu him _ _ p H
 | .ni, _, p, H => by unfold Kp at p; exact DV.pu him _ _ p H
 | .nm, _, p, H => by unfold Kp at p; exact DV.pu him _ _ p H
 | .ns, _, p, H => by unfold Kp at p; exact DV.pu him _ _ p H
 | .em, _, p, H => by unfold Kp at p; exact DV.pu him _ _ p H
 | .ifc _ _, _, p, H => by unfold Kp at p; exact DV.pu him _ _ p H
 | .lst _ _, _, p, H => by unfold Kp at p; exact DV.pu him _ _ p H
 | .pl _ _, _, p, H => by unfold Kp at p; exact DV.pu him _ _ p H
theorem DVL.kp (him : ∀ b, γ.im b -> γ'.im b) (hc : ∀ id : Pos, id.nat < n -> γ'.cur id = γ.cur id /\ γ'.β id = γ.β id) : ∀ (ds : List D) (vs : List Value), KpL n ds -> DVL γ w ds vs -> DVL γ' w ds vs
 | [], _, _, H => by unfold DVL at *; exact H
 | d :: ds, _, p, H => by
   unfold KpL at p
   unfold DVL at *
   obtain ⟨v, r, h1, h2, h3⟩ := H
   exact ⟨v, r, h1, DV.kp him hc d v p.1 h2, DVL.kp him hc ds r p.2 h3⟩
end
theorem HoldsO.kp {P : Program} (him : ∀ b, γ.im b -> γ'.im b) (hc : ∀ id : Pos, id.nat < n -> γ'.cur id = γ.cur id /\ γ'.β id = γ.β id) {id : Pos} (hid : id.nat < n) : ∀ {c : C}, KpC n c -> HoldsO P γ w id c -> HoldsO P γ' w id c
 | .cells ro cs cur, k, H => by
   obtain ⟨h0, h1, h2⟩ := H
   obtain ⟨e1, e2⟩ := hc id hid
   refine ⟨h0, e1.trans h1, fun st hst => ?_⟩
   obtain ⟨vs, e, fr, h3, h4, h5⟩ := h2 st hst
   rw [e2]
   exact ⟨vs, e, fr, h3, h4, fun p c hp hh hd => by
    obtain ⟨u, h6, h7, h8⟩ := h5 p c hp hh hd
    exact ⟨u, h6, DV.kp him hc _ _ (k c (List.mem_of_getElem? hp)) h7, h8⟩⟩
 | .map es, k, H => by
   obtain ⟨h1, en, cl, h2, h3, h4⟩ := H
   obtain ⟨e1, e2⟩ := hc id hid
   refine ⟨e1.trans h1, en, cl, by rw [e2]; exact h2, h3, fun i e f he hf => ?_⟩
   obtain ⟨k1, k2⟩ := k e (List.mem_of_getElem? he)
   exact ⟨DV.kp him hc _ _ k1 (h4 i e f he hf).1, DV.kp him hc _ _ k2 (h4 i e f he hf).2⟩
 | .lp sl ps nt asg body st jump, k, H => by
   obtain ⟨h1, l, h2, h3, h4, h5, h6⟩ := H
   obtain ⟨e1, e2⟩ := hc id hid
   refine ⟨e1.trans h1, l, by rw [e2]; exact h2, h3, h4, fun s d hs => ⟨(h5 s d hs).1, DV.kp him hc _ _ (k s d hs) (h5 s d hs).2⟩, h6⟩
 | .hole, _, H => (hc id hid).1.trans H
end
open Classical in
def rP (nx : Pos) (id : Pos) : Option Pos := if id.nat < nx.nat then some id else none
theorem mR {nx id : Pos} (h : id.nat < nx.nat) : rP nx id = some id := by unfold rP; rw [if_pos h]
theorem uU {nx id : Pos} (h : ¬ id.nat < nx.nat) : rP nx id = none := by unfold rP; rw [if_neg h]
theorem Ren.id (nx : Pos) : Ren nx (fun j => j) (rP nx) := ⟨fun j h => mR h, fun id j h => by
 by_cases hid : id.nat < nx.nat
 ·rw [mR hid] at h; cases h; exact ⟨hid, rfl⟩
 ·rw [uU hid] at h; cases h⟩
structure Beside (nx : Pos) (ob' obR obR' : T C) : Prop where
 lo : ∀ id c, id.nat < nx.nat -> obR'.get id = some c -> ob'.get id = some c
 hi : ∀ id : Pos, nx.nat <= id.nat -> obR'.get id = obR.get id
theorem FS {nx : Pos} {γ γ' : Gh} {w : World} (hz : ∀ id : Pos, nx.nat <= id.nat -> γ'.cur id = 0) : Up γ' (uH (rP nx) γ γ') w w := by
 refine ⟨fun id => ?_, fun id st hst => ?_, fun _ _ h => h, fun b hb => ⟨hb, fun _ h => h⟩⟩
 ·by_cases hid : id.nat < nx.nat
  ·rw [dX (mR hid)]; exact Nat.le_refl _
  ·rw [hz id (Nat.not_lt.1 hid)]; exact Nat.zero_le _
 ·by_cases hid : id.nat < nx.nat
  ·rw [gM (mR hid)]
  ·rw [hz id (Nat.not_lt.1 hid)] at hst; exact absurd hst (Nat.not_lt_zero _)
section
variable {P : Program} {nx nx2 : Pos} {ob ob' obR obR' : T C} {lg lg' : Option (T Bool)} {ds : List D} {v : D}
theorem sR {so : Pos -> Prop} {γ γ' : Gh} {w w' : World} (hx : nx.nat <= nx2.nat) (hb : Beside nx ob' obR obR') (hw : ∀ id : Pos, id.nat < nx.nat -> wrtn lg' id) (gh : GH γ w) (hob : ∀ id c, so id -> obR.get id = some c -> HoldsO P γ w id c) (hnx : ∀ id : Pos, so id -> nx2.nat <= id.nat -> γ.cur id = 0)
 {S : Pos -> Prop} (gh' : GH γ' w') (F : Fr S (iX nx (fun j => j) γ) γ' w w') (ho : ∀ id c, ob'.get id = some c -> HoldsO P γ' w' id c) (hn : ∀ id : Pos, nx.nat <= id.nat -> γ'.cur id = 0) :
 GH (uH (rP nx) γ γ') w' /\ Fr (wrtn lg') γ (uH (rP nx) γ γ') w w' /\ (∀ d u, DV γ' w' d u -> DV (uH (rP nx) γ γ') w' d u) /\ (∀ id c, so id -> obR'.get id = some c -> HoldsO P (uH (rP nx) γ γ') w' id c) /\ ∀ id : Pos, so id -> nx2.nat <= id.nat -> (uH (rP nx) γ γ').cur id = 0 := by
 have R := Ren.id nx
 have U := FS (γ := γ) (w := w') hn
 refine ⟨Ee R gh gh' F, Cx R (fun id j h => hw id (by obtain ⟨h1, h2⟩ := R.b id j h; exact h2 ▸ h1)) F, fun d u h => DV.mono U d u h, fun id c hid hc => ?_, fun id hid hle => ?_⟩
 ·by_cases h : id.nat < nx.nat
  ·exact HoldsO.mono U (dX (mR h)) (fun _ _ => rfl) (ho id c (hb.lo id c h hc))
  ·rw [hb.hi id (Nat.not_lt.1 h)] at hc
   exact xO R gh F (uU h) (hob id c hid hc)
 ·have h : ¬ id.nat < nx.nat := by omega
  rw [dA (uU h)]
  exact hnx id hid hle
theorem kL {γ : Gh} (id : Pos) (h : id.nat < nx.nat) : (iX nx (fun j => j) γ).cur id = γ.cur id /\ (iX nx (fun j => j) γ).β id = γ.β id := ⟨eX h, rfl⟩
theorem CallOk.frame {f : FuncId} (h : CallOk P f ds ob nx none v ob' nx none) (hle : T.le ob obR) (hk : KpO nx.nat ob) (hd : KpL nx.nat ds) (hb : Beside nx ob' obR obR') (hx : nx.nat <= nx2.nat) (hl : LgLe lg lg') (hw : ∀ id : Pos, id.nat < nx.nat -> wrtn lg' id) : CallOk P f ds obR nx2 lg v obR' nx2 lg' := by
 refine ⟨hl, Nat.le_refl _, fun id hn => hb.hi id (Nat.not_lt.1 fun h => hn (hw id h)), fun so hs γ args w gh hargs hob hnx => ?_⟩
 have hso : ∀ id : Pos, id.nat < nx.nat -> so id := fun id h => hs id (hw id h).tchd
 obtain ⟨c1, c2⟩ := h.ok (fun _ => True) (fun _ _ => trivial) (iX nx (fun j => j) γ) args w (vB (Ren.id nx) gh) (DVL.kp (mV (nx := nx) (ρ := fun j => j) (γ := γ)) kL _ _ hd hargs) (fun id c _ hc => HoldsO.kp (mV (nx := nx) (ρ := fun j => j) (γ := γ)) kL (hk id c hc).1 (hk id c hc).2 (hob id c (hso id (hk id c hc).1) (hle id c hc))) (fun id _ hid => kH (Nat.not_lt.2 hid))
 refine ⟨c1, fun ro n Q hQ => c2 ro n Q fun γ' w' u gh' F hu ho hn => ?_⟩
 obtain ⟨k1, k2, k3, k4, k5⟩ := sR (so := so) (ob' := ob') hx hb hw gh hob hnx gh' F (fun id c hc => ho id c trivial hc) (fun id hid => hn id trivial hid)
 exact hQ _ w' u k1 k2 (k3 _ _ hu) k4 k5
theorem RndOk.frame {id : Pos} (h : RndOk P id ds ob nx none v ob' nx none) (hid : id.nat < nx.nat) (hle : T.le ob obR) (hk : KpO nx.nat ob) (hd : KpL nx.nat ds) (hb : Beside nx ob' obR obR') (hx : nx.nat <= nx2.nat) (hl : LgLe lg lg') (hw : ∀ id : Pos, id.nat < nx.nat -> wrtn lg' id) : RndOk P id ds obR nx2 lg v obR' nx2 lg' := by
 refine ⟨hl, Nat.le_refl _, fun id hn => hb.hi id (Nat.not_lt.1 fun h => hn (hw id h)), fun so hs γ args w gh hargs hob hnx hcur => ?_⟩
 have hso : ∀ id : Pos, id.nat < nx.nat -> so id := fun id h => hs id (hw id h).tchd
 obtain ⟨fn, tmps, asg, body, c1, c2⟩ := h.ok (fun _ => True) (fun _ _ => trivial) (iX nx (fun j => j) γ) args w (vB (Ren.id nx) gh) (DVL.kp (mV (nx := nx) (ρ := fun j => j) (γ := γ)) kL _ _ hd hargs) (fun id c _ hc => HoldsO.kp (mV (nx := nx) (ρ := fun j => j) (γ := γ)) kL (hk id c hc).1 (hk id c hc).2 (hob id c (hso id (hk id c hc).1) (hle id c hc))) (fun id _ hid => kH (Nat.not_lt.2 hid)) (by rw [eX hid]; exact hcur)
 refine ⟨fn, tmps, asg, body, c1, fun ro n Q hQ => c2 ro n Q fun γ' w' u gh' F hu ho hn => ?_⟩
 obtain ⟨k1, k2, k3, k4, k5⟩ := sR (so := so) (ob' := ob') hx hb hw gh hob hnx gh' F (fun id c hc => ho id c trivial hc) (fun id hid => hn id trivial hid)
 exact hQ _ w' u k1 k2 (k3 _ _ hu) k4 k5
theorem WCall.fr {f : Nat} {d : Option Pos} {sl : T D} {K : X -> Prop} (h : CallOk P f ds ob nx none v ob' nx none) (hle : T.le ob obR) (hk : KpO nx.nat ob) (hd : KpL nx.nat ds) (hb : Beside nx ob' obR obR') (hx : nx.nat <= nx2.nat) (hl : LgLe lg lg') (hw : ∀ id : Pos, id.nat < nx.nat -> wrtn lg' id) (k : nL sl obR' nx2 lg' d K v) : WCall P f ds d ⟨sl, obR, nx2, lg⟩ K := by
 have C := h.frame hle hk hd hb hx hl hw
 cases d with
 | none => exact ⟨v, _, _, _, _, C, rfl, k⟩
 | some d =>
   obtain ⟨h1, h2⟩ := aT k
   exact ⟨v, _, _, _, _, C, h1, h2⟩
theorem WRnd.fr {id : Pos} {d : Option Pos} {sl : T D} {K : X -> Prop} (h : RndOk P id ds ob nx none v ob' nx none) (hid : id.nat < nx.nat) (hle : T.le ob obR) (hk : KpO nx.nat ob) (hd : KpL nx.nat ds) (hb : Beside nx ob' obR obR') (hx : nx.nat <= nx2.nat) (hl : LgLe lg lg') (hw : ∀ id : Pos, id.nat < nx.nat -> wrtn lg' id) (k : nL sl obR' nx2 lg' d K v) : WRnd P id ds d ⟨sl, obR, nx2, lg⟩ K := by
 have C := h.frame hid hle hk hd hb hx hl hw
 cases d with
 | none => exact ⟨v, _, _, _, _, C, rfl, k⟩
 | some d =>
   obtain ⟨h1, h2⟩ := aT k
   exact ⟨v, _, _, _, _, C, h1, h2⟩
end
def pJ (id j : Pos) : Option Pos := bif Pos.beq j id then some .h else none
theorem kK (id : Pos) : pJ id id = some .h := by unfold pJ; rw [Pos.beq_self]; rfl
theorem pT {id j : Pos} (h : j ≠ id) : pJ id j = none := by
 unfold pJ
 cases e : Pos.beq j id with
 | false => rfl
 | true => exact absurd (Pos.beq_iff.1 e) h
theorem Ren.one (id : Pos) : Ren (.o .h) (fun _ => id) (pJ id) := by
 refine ⟨fun j hj => ?_, fun i j h => ?_⟩
 ·have : j = .h := by
   cases j with
   | h => rfl
   | o p => have := Pos.nat_pos p; have hj : 2 * p.nat < 2 := hj; omega
   | i p => have := Pos.nat_pos p; have hj : 2 * p.nat + 1 < 2 := hj; omega
  subst this
  exact kK id
 ·by_cases e : i = id
  ·subst e
   rw [kK] at h
   cases h
   exact ⟨by decide, rfl⟩
  ·rw [pT e] at h; cases h
theorem CallOk.one {P : Program} {f : FuncId} {n st z cur : Nat} {cs : List Cell} {v : D} {ob' : T C} (h : CallOk P f [.sl .h 0 n st z] (.n .e (some (.cells false cs cur)) .e) (.o .h) none v ob' (.o .h) none) (hob' : ob'.get .h = some (.cells false cs cur)) (hp : ∀ c ∈ cs, Pu c.d) (hv : Pu v)
 {id : Pos} {ob : T C} {nx : Pos} {lg lg' : Option (T Bool)} (hid : ob.get id = some (.cells false cs cur)) (hlt : id.nat < nx.nat) (hl : LgLe lg lg') (hw : wrtn lg' id) : CallOk P f [.sl id 0 n st z] ob nx lg v ob nx lg' := by
 refine ⟨hl, Nat.le_refl _, Keeps.refl _ _, fun so hs γ args w gh hargs hob hnx => ?_⟩
 have hso : so id := hs id hw.tchd
 have h1 : Pos.h.nat < (Pos.o .h).nat := by decide
 have R := Ren.one id
 have hargs' : DVL (iX (.o .h) (fun _ => id) γ) w [.sl .h 0 n st z] args.toList := by
  unfold DVL at hargs ⊢
  obtain ⟨u, r, e1, e2, e3⟩ := hargs
  refine ⟨u, r, e1, ?_, e3⟩
  unfold DV at e2 ⊢
  rw [eX h1]
  exact e2
 obtain ⟨c1, c2⟩ := h.ok (fun _ => True) (fun _ _ => trivial) (iX (.o .h) (fun _ => id) γ) args w (vB R gh) hargs' (fun j c _ hc => by
  cases j with
  | h =>
    rw [T.get_h] at hc
    cases hc
    obtain ⟨q0, q1, q2⟩ := hob id _ hso hid
    refine ⟨q0, (eX h1).trans q1, fun s hs => ?_⟩
    obtain ⟨vs, e, fr, q3, q4, q5⟩ := q2 s hs
    refine ⟨vs, e, fr, q3, q4, fun p c hpc hh hd => ?_⟩
    obtain ⟨u, q6, q7, q8⟩ := q5 p c hpc hh hd
    exact ⟨u, q6, DV.pu (mV (nx := .o .h) (ρ := fun _ => id) (γ := γ)) _ _ (hp c (List.mem_of_getElem? hpc)) q7, q8⟩
  | o p => rw [T.get_o, T.get_e] at hc; cases hc
  | i p => rw [T.get_i, T.get_e] at hc; cases hc) (fun j _ hj => kH (Nat.not_lt.2 hj))
 refine ⟨c1, fun ro m Q hQ => c2 ro m Q fun γ' w' u gh' F hu ho hn => ?_⟩
 have hWid : ∀ i j, pJ id i = some j -> wrtn lg' i := fun i j h => by
  by_cases e : i = id
  ·subst e; exact hw
  ·rw [pT e] at h; cases h
 refine hQ (uH (pJ id) γ γ') w' u (Ee R gh gh' F) (Cx R hWid F) (DV.pu (Ef (τ := pJ id) (γ := γ) (γ' := γ')) _ _ hv hu) (fun i c hi hc => ?_) (fun i hi hle => ?_)
 ·by_cases e : i = id
  ·subst e
   rw [hid] at hc
   cases hc
   obtain ⟨q0, q1, q2⟩ := ho .h _ trivial hob'
   refine ⟨q0, (dX (kK i)).trans q1, fun s hs => ?_⟩
   obtain ⟨vs, e, fr, q3, q4, q5⟩ := q2 s hs
   rw [gM (kK i)]
   refine ⟨vs, e, fr, q3, q4, fun p c hpc hh hd => ?_⟩
   obtain ⟨u, q6, q7, q8⟩ := q5 p c hpc hh hd
   exact ⟨u, q6, DV.pu (Ef (τ := pJ i) (γ := γ) (γ' := γ')) _ _ (hp c (List.mem_of_getElem? hpc)) q7, q8⟩
  ·exact xO R gh F (pT e) (hob i c hi hc)
 ·have e : i ≠ id := fun e => by subst e; omega
  rw [dA (pT e)]
  exact hnx i hi hle
theorem WCall.one {P : Program} {f : Nat} {n st z cur : Nat} {cs : List Cell} {v : D} {ob' : T C} (h : CallOk P f [.sl .h 0 n st z] (.n .e (some (.cells false cs cur)) .e) (.o .h) none v ob' (.o .h) none) (hob' : ob'.get .h = some (.cells false cs cur)) (hp : ∀ c ∈ cs, Pu c.d) (hv : Pu v)
 {id : Pos} {ob : T C} {nx : Pos} {lg lg' : Option (T Bool)} {sl : T D} {d : Option Pos} {K : X -> Prop} (hid : ob.get id = some (.cells false cs cur)) (hlt : id.nat < nx.nat) (hl : LgLe lg lg') (hw : wrtn lg' id) (k : nL sl ob nx lg' d K v) : WCall P f [.sl id 0 n st z] d ⟨sl, ob, nx, lg⟩ K := by
 have C := h.one hob' hp hv hid hlt hl hw
 cases d with
 | none => exact ⟨v, _, _, _, _, C, rfl, k⟩
 | some d =>
   obtain ⟨h1, h2⟩ := aT k
   exact ⟨v, _, _, _, _, C, h1, h2⟩
open Go.RowKit (Below Grown)
section
variable {γ : Gh} {w : World} {id : Pos}
end
open Go.RowKit (Below Grown)
structure RnF (P : Program) (nt : Nat) (x0 : X) (rc : RC) (y : X) (K : Ex -> X -> Prop) : Prop where
 ok : x0.lg = none -> y.lg = none -> x0.nx.nat <= y.nx.nat -> ∀ c : Code, aY P nt c = rc -> ∃ e Z, Z.lg = none /\ x0.nx.nat <= Z.nx.nat /\ K e Z /\
  ∀ (ro : Option Nat) (γ : Gh) (a : Act) (w : World), a.tmps.size = nt -> G ro γ a w -> Rep P (eH fun _ => True) γ a w x0 -> ∀ (γ1 : Gh) (a1 : Act) (w1 : World), CSt ro none γ a w γ1 a1 w1 -> Rep P (eH fun _ => True) γ1 a1 w1 y ->
    ∀ (n : Nat) (Q : Exit -> Act -> World -> Prop), (∀ γ' a' w', CSt ro none γ a w γ' a' w' -> Rep P (eH fun _ => True) γ' a' w' Z -> Q e.to a' w') -> c.wpIn (FW ro) n P Q a1 w1
section
variable {P : Program} {nt : Nat} {x0 : X} {rc : RC} {y : X} {K : Ex -> X -> Prop}
theorem Rep.all {so : Pos -> Prop} {γ : Gh} {a : Act} {w : World} {x : X} (h : ∀ id, so id) (R : Rep P (eH so) γ a w x) : Rep P (eH fun _ => True) γ a w x :=
 ⟨fun s d _ hd => R.sl s d trivial hd, fun id c _ hc => R.ob id c (h id) hc, fun id _ hle => R.nx id (h id) hle, R.gl⟩
theorem Rep.any {so : Pos -> Prop} {γ : Gh} {a : Act} {w : World} {x : X} (R : Rep P (eH fun _ => True) γ a w x) : Rep P (eH so) γ a w x :=
 ⟨fun s d _ hd => R.sl s d trivial hd, fun id c _ hc => R.ob id c trivial hc, fun id _ hle => R.nx id trivial hle, R.gl⟩
theorem Rn.far {x : X} (hl : x.lg = none) (h : RnF P nt x rc x K) : Rn P nt rc x K :=
 ⟨fun c hc => by
  obtain ⟨e, Z, h1, h2, h3, h4⟩ := h.ok hl hl (Nat.le_refl _) c hc
  refine ⟨e, Z, ⟨by rw [hl, h1]; exact LgLe.refl _, h2, fun id hn => by rw [h1] at hn; exact absurd trivial hn, fun so hs ro γ a w hn g R n Q hQ => ?_⟩, h3⟩
  have hall : ∀ id, so id := fun id => hs id (by rw [h1]; trivial)
  refine h4 ro γ a w hn g (R.all hall) γ a w (CSt.refl g) (R.all hall) n Q fun γ' a' w' s' R' => hQ γ' a' w' (by rw [h1]; exact s') R'.any⟩
structure FarK (P : Program) (nt : Nat) (x0 : X) (b : RC) (K : Ex -> X -> Prop) (e : Ex) (z : X) : Prop where
 ok : e = .normal /\ z.lg = none /\ x0.nx.nat <= z.nx.nat /\ RnF P nt x0 b z K
theorem RnF.seq {a b : RC} (h : Rn P nt a y (FarK P nt x0 b K)) : RnF P nt x0 (.seq a b) y K :=
 ⟨fun hl0 hly hx c hc => by
  obtain ⟨c1, k1, k2, k3⟩ := GO (P := P) (nt := nt) c
  have hc1 := k1.trans hc
  refine other hc1 k2 (fun e => by cases e) (fun _ e => by cases e) (fun j _ e => by cases e) (fun i ops _ e => by cases e) (fun i ops _ e => by cases e) (fun a' b' e e' => ?_) (fun _ _ _ _ _ _ e => by cases e) (fun _ _ _ e => by cases e) (fun _ _ e => by cases e) (fun _ _ _ _ _ _ _ _ _ e => by cases e) (fun e => by cases e)
  simp only [RC.seq.injEq] at e'
  obtain ⟨e1, e2⟩ := e'
  subst e
  obtain ⟨e, z, h1, h2⟩ := h.ok a' e1.symm
  obtain ⟨rfl, hlz, hxz, h3⟩ := h2.ok
  obtain ⟨e, Z, j1, j2, j3, j4⟩ := h3.ok hl0 hlz hxz b' e2.symm
  refine ⟨e, Z, j1, j2, j3, fun ro γ A w hn g R γ1 a1 w1 s1 R1 n Q hQ => ?_⟩
  obtain ⟨Q', q1, q2⟩ := k3 (F := FW ro) (n := n) (Q := Q) (a := a1) (w := w1)
  refine q2 (wpIn_seq (h1.ok (fun _ => True) (fun _ _ => trivial) ro γ1 a1 w1 (s1.sz.trans hn) s1.g R1 n _ fun γ2 a2 w2 s2 R2 => ?_))
  have s2 : CSt ro none γ1 a1 w1 γ2 a2 w2 := by rw [hlz] at s2; exact s2
  exact j4 ro γ A w hn g R γ2 a2 w2 (CSt.trans (LgLe.refl _) s1 s2) R2 n Q' fun γ' a' w' s' R' => q1 _ _ _ (hQ γ' a' w' s' R')⟩
theorem RnF.turn {z' : X} {B : Pos -> Prop} (S : ShrB B y z') (hx : ∀ id : Pos, id.nat < x0.nx.nat -> B id) (hz : ∀ id : Pos, B id -> id.nat < z'.nx.nat) (hn0 : x0.nx.nat <= z'.nx.nat) (h : Rn P nt rc z' K) : RnF P nt x0 rc y K :=
 ⟨fun hl0 hly hxy c hc => by
  obtain ⟨e, Z, h1, h2⟩ := h.ok c hc
  have hZ : Z.lg = none := h1.lg.none.1 S.l'
  refine ⟨e, Z, hZ, Nat.le_trans hn0 h1.nx, h2, fun ro γ A w hn g R γ1 a1 w1 s1 R1 n Q hQ => ?_⟩
  obtain ⟨γ2, s2, R2⟩ := xZ S hx hz (fun _ => trivial) R (by rw [hly]; exact s1) R1
  have s2 : CSt ro none γ A w γ2 a1 w1 := by rw [S.l'] at s2; exact s2
  refine h1.ok (fun _ => True) (fun _ _ => trivial) ro γ2 a1 w1 (s2.sz.trans hn) s2.g R2 n Q fun γ3 a3 w3 s3 R3 => ?_
  have s3 : CSt ro none γ2 a1 w1 γ3 a3 w3 := by rw [hZ] at s3; exact s3
  exact hQ γ3 a3 w3 (CSt.trans (LgLe.refl _) s2 s3) R3⟩
end
open Go.RowKit (Below Grown)
structure Fill (nx a : Pos) (ob1 ob2 : T C) : Prop where
 ok : ∃ (r q : Pos) (ro : Bool) (n st z k m fZ cur : Nat) (ds : List D), r.nat + 1 = nx.nat /\ q.nat < r.nat /\ ob1.get r = some .hole /\ aN ds /\
  ob1.get a = some (.cells false (ds.map fun d => Cell.o d fZ) cur) /\ ob1.get q = some (.cells ro [.o (.sl a 0 n st z) k] m) /\
  ∀ i ci, ob2.get i = some ci -> (i = r /\ ci = .cells false (ds.map fun d => Cell.o d fZ) cur) \/ (i = q /\ ci = .cells ro [.o (.sl r 0 n st z) k] m) \/ (i.nat < r.nat /\ ob1.get i = some ci /\ KpC r.nat ci)
open Classical in
theorem RndOk.fill {P : Program} {id : Pos} {ds : List D} {ob ob1 ob2 : T C} {nx nx1 a : Pos} {v : D} (h : RndOk P id ds ob nx none v ob1 nx1 none) (hv : Pu v) (ha : nx.nat <= a.nat) (F : Fill nx a ob1 ob2) : RndOk P id ds ob nx none v ob2 nx none := by
 obtain ⟨r, q, ro, n, st, z, k, m, fZ, cu, dz, hr, hq, hole, hpu, hn, hqq, hrest⟩ := F.ok
 refine ⟨LgLe.refl _, Nat.le_refl _, fun id hn => absurd trivial hn, fun so hs γ args w gh hargs hob hnx hcur => ?_⟩
 have hall : ∀ id, so id := fun id => hs id trivial
 obtain ⟨fn, tmps, asg, body, h1, h2⟩ := h.ok so (fun id _ => hall id) γ args w gh hargs hob hnx hcur
 refine ⟨fn, tmps, asg, body, h1, fun ro' n' R hR => h2 ro' n' R fun γ1 w1 u g1 F1 hu ho hz => ?_⟩
 have hnr : a ≠ r := fun e => by rw [e] at ha; omega
 have hr1 : γ1.cur r = 0 := ho r _ (hall r) hole
 have hr0 : γ.cur r = 0 := by have := F1.up.cur r; omega
 have hnx0 : γ.cur a = 0 := hnx a (hall a) ha
 let γ2 : Gh := ⟨fun i => if i = r then γ1.cur a else if i.nat < r.nat then γ1.cur i else 0, fun i => if i = r then γ1.β a else γ1.β i, γ1.im⟩
 have cr : γ2.cur r = γ1.cur a := by show (if _ then _ else _) = _; rw [if_pos rfl]
 have br : γ2.β r = γ1.β a := by show (if _ then _ else _) = _; rw [if_pos rfl]
 have cl : ∀ i : Pos, i.nat < r.nat -> γ2.cur i = γ1.cur i := fun i hi => by
  have hne : i ≠ r := fun e => by rw [e] at hi; omega
  show (if _ then _ else _) = _; rw [if_neg hne, if_pos hi]
 have bl : ∀ i : Pos, i ≠ r -> γ2.β i = γ1.β i := fun i hi => by show (if _ then _ else _) = _; rw [if_neg hi]
 have c0 : ∀ i : Pos, i ≠ r -> ¬ i.nat < r.nat -> γ2.cur i = 0 := fun i h1 h2 => by show (if _ then _ else _) = _; rw [if_neg h1, if_neg h2]
 have lt2 : ∀ i s, s < γ2.cur i -> ∃ j, s < γ1.cur j /\ γ2.β i = γ1.β j /\ ((i = r /\ j = a) \/ (i.nat < r.nat /\ j = i)) := fun i s hi => by
  by_cases e : i = r
  ·subst e; rw [cr] at hi; exact ⟨a, hi, br, .inl ⟨rfl, rfl⟩⟩
  ·by_cases hl : i.nat < r.nat
   ·rw [cl i hl] at hi; exact ⟨i, hi, bl i e, .inr ⟨hl, rfl⟩⟩
   ·rw [c0 i e hl] at hi; exact absurd hi (Nat.not_lt_zero _)
 have kp : ∀ id : Pos, id.nat < r.nat -> γ2.cur id = γ1.cur id /\ γ2.β id = γ1.β id := fun i hi => ⟨cl i hi, bl i fun e => by rw [e] at hi; omega⟩
 have G2 : GH γ2 w1 := by
  refine ⟨fun i s hi => ?_, fun i s i' s' hi hi' he => ?_, fun b hb => ⟨(g1.im b hb).1, fun i s hi => ?_⟩, g1.gl.im fun _ h => h⟩
  ·obtain ⟨j, k1, k2, _⟩ := lt2 i s hi
   rw [k2]; exact g1.ob j s k1
  ·obtain ⟨j, k1, k2, k3⟩ := lt2 i s hi
   obtain ⟨j', k1', k2', k3'⟩ := lt2 i' s' hi'
   rw [k2, k2'] at he ⊢
   obtain ⟨e1, e2⟩ := g1.inj j s j' s' k1 k1' he
   refine ⟨?_, e2⟩
   rcases k3 with ⟨a1, a2⟩ | ⟨a1, a2⟩ <;> rcases k3' with ⟨b1, b2⟩ | ⟨b1, b2⟩
   ·rw [a1, b1]
   ·exfalso; rw [a2, b2] at e1; rw [<- e1] at b1; omega
   ·exfalso; rw [a2, b2] at e1; rw [e1] at a1; omega
   ·rw [<- a2, <- b2, e1]
  ·obtain ⟨j, k1, k2, _⟩ := lt2 i s hi
   rw [k2]; exact (g1.im b hb).2 j s k1
 have F2 : Fr (wrtn none) γ γ2 w w1 := by
  refine ⟨⟨fun i => ?_, fun i s hi => ?_, F1.up.sh, F1.up.im⟩, fun id hn => absurd trivial hn, F1.blk, fun i s h1 h2 => ?_, F1.imn, F1.lp, F1.size, F1.os, F1.tape, F1.output, F1.fz⟩
  ·by_cases e : i = r
   ·subst e; rw [hr0]; exact Nat.zero_le _
   ·by_cases hl : i.nat < r.nat
    ·rw [cl i hl]; exact F1.up.cur i
    ·have : r.nat ≠ i.nat := fun h => e (Pos.inj h.symm)
     rw [hnx i (hall i) (by omega)]; exact Nat.zero_le _
  ·have e : i ≠ r := fun e => by subst e; rw [hr0] at hi; exact absurd hi (Nat.not_lt_zero _)
   rw [bl i e]; exact F1.up.β i s hi
  ·obtain ⟨j, k1, k2, k3⟩ := lt2 i s h2
   rw [k2]
   rcases k3 with ⟨a1, a2⟩ | ⟨a1, a2⟩
   ·subst a2
    rcases F1.new j s (by rw [hnx0]; exact Nat.zero_le _) k1 with h | ⟨s0, h, _⟩
    ·exact .inl h
    ·rw [hnx0] at h; exact absurd h (Nat.not_lt_zero _)
   ·subst a2; exact F1.new j s h1 k1
 refine hR γ2 w1 u G2 F2 (DV.pu (γ := γ1) (γ' := γ2) (fun _ h => h) _ _ hv hu) (fun i ci _ hci => ?_) (fun i _ hi => c0 i (fun e => by rw [e] at hi; omega) (by omega))
 rcases hrest i ci hci with ⟨rfl, rfl⟩ | ⟨rfl, rfl⟩ | ⟨hi, hg, hk⟩
 ·obtain ⟨q0, q1, q2⟩ := ho a _ (hall a) hn
  refine ⟨q0, cr.trans q1, fun s hs => ?_⟩
  obtain ⟨vs, e, fr, q3, q4, q5⟩ := q2 s hs
  rw [br]
  refine ⟨vs, e, fr, q3, q4, fun p c hpc hh hd => ?_⟩
  obtain ⟨u', q6, q7, q8⟩ := q5 p c hpc hh hd
  refine ⟨u', q6, DV.pu (γ := γ1) (γ' := γ2) (fun _ h => h) _ _ ?_ q7, q8⟩
  obtain ⟨d, hd1, rfl⟩ := List.mem_map.1 (List.mem_of_getElem? hpc)
  exact aS.1 hpu d hd1
 ·obtain ⟨q0, q1, q2⟩ := ho i _ (hall i) hqq
  obtain ⟨e1, e2⟩ := kp i hq
  refine ⟨q0, e1.trans q1, fun s hs => ?_⟩
  obtain ⟨vs, e, fr, q3, q4, q5⟩ := q2 s hs
  rw [e2]
  refine ⟨vs, e, fr, q3, q4, fun p c hpc hh hd => ?_⟩
  cases p with
  | zero =>
    have hc : c = Cell.o (.sl r 0 n st z) k := by simpa using hpc.symm
    subst hc
    obtain ⟨u', q6, q7, q8⟩ := q5 0 (Cell.o (.sl a 0 n st z) k) rfl hh hd
    refine ⟨u', q6, ?_, q8⟩
    have q7 : DV γ1 w1 (.sl a 0 n st z) u' := q7
    show DV γ2 w1 (.sl r 0 n st z) u'
    unfold DV at q7 ⊢
    rw [cr, br]
    exact q7
  | succ p => simp at hpc
 ·exact HoldsO.kp (γ := γ1) (γ' := γ2) (fun _ h => h) kp hi hk (ho i ci (hall i) hg)
theorem CallOk.hole {P : Program} {f : Nat} {ds : List D} {ob ob' : T C} {nx nx' nx2 r : Pos} {lg lg' : Option (T Bool)} {v : D} (h : CallOk P f ds (T.set r .hole ob) nx' lg v ob' nx2 lg') (h1 : nx.nat <= r.nat) (h2 : nx.nat <= nx'.nat) (hw : wrtn lg' r) : CallOk P f ds ob nx lg v ob' nx2 lg' :=
 ⟨h.hl, Nat.le_trans h2 h.hx, fun id hn => by
  by_cases e : id = r
  ·subst e; exact absurd hw hn
  ·have := h.hk id hn
   rw [T.get_set_ne e] at this
   exact this, fun so hs γ args w gh ha ho hn => h.ok so hs γ args w gh ha (fun id c hid hc => by
  by_cases e : id = r
  ·subst e
   rw [T.get_set_same] at hc
   cases hc
   exact hn id hid h1
  ·rw [T.get_set_ne e] at hc
   exact ho id c hid hc) fun id hid hle => hn id hid (Nat.le_trans h2 hle)⟩
section
variable {lg : Option (T Bool)}
def KY (lg : Option (T Bool)) (id : Pos) (k : Option (T Bool) -> Prop) : Prop :=
 Option.casesOn lg (k none) fun L => Option.casesOn (L.get id) (T.setK id false L fun L => k (some L)) fun _ => k (some L)
def Lu (lg : Option (T Bool)) (id : Pos) (k : Option (T Bool) -> Prop) : Prop :=
 Option.casesOn lg (k none) fun L => T.setK id true L fun L => k (some L)
theorem uA {id : Pos} {k : Option (T Bool) -> Prop} (h : KY lg id k) : ∃ l, (gH lg id = fun j => j l) /\ k l := by
 cases lg with
 | none => exact ⟨none, rfl, h⟩
 | some L =>
   change Option.rec _ _ (L.get id) at h
   cases hg : L.get id with
   | none =>
     rw [hg] at h
     change T.setK id false L _ at h
     rw [T.setK_eq] at h
     exact ⟨some (T.set id false L), funext fun j => by simp only [gH, hg, T.setK_eq], h⟩
   | some b => rw [hg] at h; exact ⟨some L, funext fun j => by simp only [gH, hg], h⟩
theorem vH {id : Pos} {k : Option (T Bool) -> Prop} (h : Lu lg id k) : ∃ l, (rQ lg id = fun j => j l) /\ k l := by
 cases lg with
 | none => exact ⟨none, rfl, h⟩
 | some L =>
   change T.setK id true L _ at h
   rw [T.setK_eq] at h
   exact ⟨_, funext fun j => by show T.setK id true L _ = _; rw [T.setK_eq], h⟩
end
theorem wSt.ok {o : Option X} {Z : X} {K : X -> Prop} (h : o = some Z) (k : K Z) : wSt o K := by
 subst h
 exact k
section
variable {sl : T D} {ob : T C} {nx : Pos} {lg : Option (T Bool)} {K : X -> Prop}
theorem wSt.fad {d id : Pos} {off st k : Nat} {x : RX} (hx : bC sl x = some (.pt id off st)) (h : dG sl ob nx lg d K (.pt id (off + k) st)) : wSt (step (.fad d x k) sl ob nx lg) K := by
 obtain ⟨h2, h3⟩ := aT h
 refine wSt.ok ?_ h3
 show sN d x k sl ob nx lg = _
 unfold sN
 rw [hx]
 simp only [bB]
 exact h2
theorem wSt.ld1 {d id : Pos} {off st lo cur : Nat} {ro : Bool} {cs : List Cell} {v : D} {x : RX} (hx : bC sl x = some (.pt id off st)) (ho : ob.get id = some (.cells ro cs cur)) (hc : cs[off]? = some (.o v lo)) (hl : lo <= st) (h : KY lg id fun lg => dG sl ob nx lg d K v) : wSt (step (.ld1 d x) sl ob nx lg) K := by
 obtain ⟨l1, e1, h⟩ := uA h
 obtain ⟨h2, h3⟩ := aT h
 refine wSt.ok ?_ h3
 show tR d x sl ob nx lg = _
 unfold tR
 rw [hx]
 simp only [ho, dJ, hc]
 show (bif Nat.ble lo st then _ else none) = _
 rw [Nat.ble_eq_true_of_le hl, cond_true, e1]
 exact h2
theorem rW {β : Type} (st : Nat) (mk : D -> Cell) (v : D) : ∀ (off : Nat) (cs : List Cell) (f : List Cell -> Option β) (d : D) (lo : Nat), cs[off]? = some (.o d lo) -> lo <= st -> eL st mk [v] off cs f = f (cs.set off (mk v))
 | 0, [], f, d, lo, h, _ => by simp at h
 | 0, c :: cs, f, d, lo, h, hl => by
   simp at h
   subst h
   show (bif Nat.ble lo st then f (mk v :: cs) else none) = _
   rw [Nat.ble_eq_true_of_le hl]
   rfl
 | off + 1, [], f, d, lo, h, _ => by simp at h
 | off + 1, c :: cs, f, d, lo, h, hl => by
   show eL st mk [v] off cs (fun l => f (c :: l)) = _
   rw [rW st mk v off cs _ d lo (by simpa using h) hl]
   rfl
theorem wSt.st1 {id : Pos} {off st lo cur : Nat} {cs : List Cell} {v0 : D} {k : IntKind} {n : Int} {x y : RX} (hx : bC sl x = some (.pt id off st)) (hy : bC sl y = some (.i k n)) (ho : ob.get id = some (.cells false cs cur)) (hcur : cur = st + 1) (hc : cs[off]? = some (.o v0 lo)) (hl : lo <= st) (h : Lu lg id fun lg => T.setK id (.cells false (cs.set off (.o (.i k n) st)) cur) ob fun ob => K ⟨sl, ob, nx, lg⟩) : wSt (step (.st x y 1) sl ob nx lg) K := by
 obtain ⟨l1, e1, h⟩ := vH h
 rw [T.setK_eq] at h
 refine wSt.ok ?_ h
 show By x y 1 sl ob nx lg = _
 unfold By
 rw [hx, hy]
 subst hcur
 have hb : Nat.beq (Nat.succ st) (st + 1) = true := Nat.beq_refl _
 have hcd : oC (.i k n) = some [.i k n] := rfl
 simp only [ho, hcd]
 show (bif Nat.beq 1 1 then (bif Nat.beq (Nat.succ st) (st + 1) then _ else _) else none) = _
 rw [hb]
 show eL st (fun d => Cell.o d st) [D.i k n] off cs _ = _
 rw [rW st _ _ off cs _ v0 lo hc hl]
 unfold oP
 rw [e1]
 show (T.setK id _ ob fun ob => some ⟨sl, ob, nx, l1⟩ : Option X) = _
 rw [T.setK_eq]
end
end Go.Ev
end
