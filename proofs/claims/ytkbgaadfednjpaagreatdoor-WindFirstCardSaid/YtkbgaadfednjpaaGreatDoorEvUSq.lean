import Derived.Test.YtkbgaadfednjpaaGreatDoorEvUIt
import Derived.Test.YtkbgaadfednjpaaGreatDoorEvURn
set_option linter.all false
set_option maxHeartbeats 8000000
noncomputable section
namespace Go.Ev
open Go.RowKit (Below Grown)
section
variable {P : Program} {nt : Nat}
open Classical in
theorem pL {x Z Z' : X} {B : Pos -> Prop} {ro : Option Nat} {so : Pos -> Prop} {γ γ1 : Gh} {a a1 : Act} {w w1 : World} (S : ShrB B Z Z') (hx : ∀ id : Pos, id.nat < x.nx.nat -> B id) (hz : ∀ id : Pos, B id -> id.nat < Z'.nx.nat) (hall : ∀ id, so id) (R : Rep P (eK so) γ a w x) (cst : CSt ro Z.lg γ a w γ1 a1 w1) (rep : Rep P (eK so) γ1 a1 w1 Z) :
 ∃ γ2, CSt ro Z'.lg γ a w γ2 a1 w1 /\ Rep P (eK so) γ2 a1 w1 Z' := by
 have hzero : ∀ id, ¬ B id -> γ.cur id = 0 := fun id hid => R.nx id (hall id) (Nat.not_lt.1 fun h => hid (hx id h))
 let γ2 : Gh := ⟨fun id => if B id then γ1.cur id else 0, γ1.β, fun b => γ1.im b \/ ((∃ id st, ¬ B id /\ st < γ1.cur id /\ (γ1.β id st).1 = b) /\ ∃ vs e fr, w1.heap[b]? = some (.cells vs e fr))⟩
 have c2 : ∀ id, B id -> γ2.cur id = γ1.cur id := fun id hid => by show (if _ then _ else _) = _; rw [if_pos hid]
 have c2' : ∀ id, ¬ B id -> γ2.cur id = 0 := fun id hid => by show (if _ then _ else _) = _; rw [if_neg hid]
 have lt2 : ∀ id st, st < γ2.cur id -> B id /\ st < γ1.cur id := fun id st hst => by
  by_cases hid : B id
  ·rw [c2 id hid] at hst; exact ⟨hid, hst⟩
  ·rw [c2' id hid] at hst; exact absurd hst (Nat.not_lt_zero _)
 have hob1 : ∀ id c, Z.ob.get id = some c -> HoldsO P γ1 w1 id c := fun id c hc => rep.ob id c (hall id) hc
 have fz : ∀ d d', Fz B Z.ob d d' -> ∀ v, DV γ1 w1 d v -> DV γ2 w1 d' v := fun d d' hf =>
  Fz.ok (γ := γ1) (γ' := γ2) (fun b hb => .inl hb) hob1 (fun id hid => ⟨c2 id hid, rfl⟩) (fun id st vs e fr hid hst hc => .inr ⟨⟨id, st, hid, hst, rfl⟩, vs, e, fr, hc⟩) hf
 have F := cst.fr
 have fresh : ∀ id st, ¬ B id -> st < γ1.cur id -> w.heap.size <= (γ1.β id st).1 := fun id st hid hst => by
  rcases F.new id st (by rw [hzero id hid]; exact Nat.zero_le _) hst with h | ⟨gB, h, _⟩
  ·exact h
  ·rw [hzero id hid] at h; exact absurd h (Nat.not_lt_zero _)
 have G2 : G ro γ2 a1 w1 := by
  refine ⟨fun id st hst => cst.g.ob id st (lt2 id st hst).2, fun id st id' st' hst hst' he => cst.g.inj id st id' st' (lt2 id st hst).2 (lt2 id' st' hst').2 he, ?_, cst.g.rd, fun b hb => ?_, cst.g.gl.im fun _ h => .inl h⟩
  ·obtain ⟨ms, d1, d2, d3⟩ := cst.g.df
   exact ⟨ms, d1, d2, fun r hr => ⟨(d3 r hr).1, fun id st hst => (d3 r hr).2 id st (lt2 id st hst).2⟩⟩
  ·rcases hb with hb | ⟨⟨id', st', h1, h2, h3⟩, h4⟩
   ·exact ⟨(cst.g.im b hb).1, fun id st hst => (cst.g.im b hb).2 id st (lt2 id st hst).2⟩
   ·refine ⟨h4, fun id st hst e => ?_⟩
    obtain ⟨k1, k2⟩ := lt2 id st hst
    have e : (γ1.β id st).1 = b := e
    obtain ⟨rfl, _⟩ := cst.g.inj id st id' st' k2 h2 (e.trans h3.symm)
    exact h1 k1
 have hw : ∀ {id : Pos}, wrtn Z'.lg id := fun {id} => by rw [S.l']; trivial
 have hwZ : ∀ {id : Pos}, wrtn Z.lg id := fun {id} => by rw [S.l]; trivial
 refine ⟨γ2, ⟨G2, ⟨⟨fun id => ?_, fun id st hst => F.up.β id st hst, F.up.sh, fun b hb => ⟨.inl (F.up.im b hb).1, (F.up.im b hb).2⟩⟩, fun id hn => absurd hw hn, fun b hb hn => F.blk b hb fun id st _ hst => hn id st hw hst, fun id st h1 h2 => F.new id st h1 (lt2 id st h2).2, fun b hb hlt => ?_, F.lp, F.size, F.os, F.tape, F.output, F.fz⟩, cst.sz, cst.dn⟩,
  ⟨fun s d' _ hd => ?_, fun id c' _ hc => ?_, fun id _ hle => c2' id (fun hb => by have := hz id hb; omega), cst.g.gl.im fun _ h => .inl h⟩⟩
 ·by_cases hid : B id
  ·rw [c2 id hid]; exact F.up.cur id
  ·rw [hzero id hid]; exact Nat.zero_le _
 ·rcases hb with hb | ⟨⟨id', st', h1, h2, h3⟩, h4⟩
  ·exact F.imn b hb hlt
  ·have := fresh id' st' h1 h2
   omega
 ·obtain ⟨d, h1, h2⟩ := S.sl s d' hd
  obtain ⟨h3, h4⟩ := rep.sl s d trivial h1
  exact ⟨h3, fz d d' h2 _ h4⟩
 ·obtain ⟨hid, c, h1, h2⟩ := S.ob id c' hc
  have H := hob1 id c h1
  cases h2 with
  | cells hcc =>
    obtain ⟨q0, q1, q2⟩ := H
    refine ⟨q0, (c2 id hid).trans q1, fun st hst => ?_⟩
    obtain ⟨vs, e, fr, q3, q4, q5⟩ := q2 st hst
    refine ⟨vs, e, fr, q3, q4, fun p c' hp hh hd => ?_⟩
    obtain ⟨c, k1, k2, k3⟩ := hcc p c' hp
    obtain ⟨u, k4, k5, k6⟩ := q5 p c k1 (k2 st hh) hd
    exact ⟨u, k4, fz _ _ k3 u k5, k6⟩
  | map hl hm =>
    obtain ⟨q1, en, cl, q2, q3, q4⟩ := H
    refine ⟨(c2 id hid).trans q1, en, cl, q2, by rw [<- hl]; exact q3, fun i e' f he' hf => ?_⟩
    rename_i es es'
    have hi : i < es.length := by rw [hl]; exact (List.getElem?_eq_some_iff.1 he').1
    obtain ⟨k1, k2⟩ := hm i _ e' (List.getElem?_eq_getElem hi) he'
    obtain ⟨k3, k4⟩ := q4 i _ f (List.getElem?_eq_getElem hi) hf
    exact ⟨fz _ _ k1 _ k3, fz _ _ k2 _ k4⟩
  | lp hsl =>
    obtain ⟨q1, l, q2, q3, q4, q5, q6⟩ := H
    refine ⟨(c2 id hid).trans q1, l, q2, q3, q4, fun s d' hs => ?_, q6⟩
    obtain ⟨d, k1, k2⟩ := hsl s d' hs
    exact ⟨(q5 s d k1).1, fz _ _ k2 _ (q5 s d k1).2⟩
  | hole => exact (c2 id hid).trans H
theorem Di : ∀ c : Code, ∃ c', bB P nt c' = bB P nt c /\ (∀ d, c' ≠ .scope d) /\ ∀ {F : Fence} {n : Nat} {Q : Exit -> Act -> World -> Prop} {a : Act} {w : World}, ∃ Q' : Exit -> Act -> World -> Prop, (∀ (e : Ex) a w, Q e.to a w -> Q' e.to a w) /\ (c'.wpIn F n P Q' a w -> c.wpIn F n P Q a w)
 | .scope c => let ⟨c', h1, h2, h3⟩ := Di c; ⟨c', h1, h2, fun {F n Q a w} => by
   obtain ⟨Q', k1, k2⟩ := h3 (F := F) (n := n) (Q := Exit.noGoto Q) (a := a) (w := w)
   exact ⟨Q', fun e a w h => k1 e a w (by cases e <;> exact h), fun h => eY (k2 h)⟩⟩
 | .skip => ⟨.skip, rfl, (fun _ h => by cases h), fun {F n Q a w} => ⟨Q, fun _ _ _ h => h, fun h => h⟩⟩
 | .label l => ⟨.label l, rfl, (fun _ h => by cases h), fun {F n Q a w} => ⟨Q, fun _ _ _ h => h, fun h => h⟩⟩
 | .ret => ⟨.ret, rfl, (fun _ h => by cases h), fun {F n Q a w} => ⟨Q, fun _ _ _ h => h, fun h => h⟩⟩
 | .exit i => ⟨.exit i, rfl, (fun _ h => by cases h), fun {F n Q a w} => ⟨Q, fun _ _ _ h => h, fun h => h⟩⟩
 | .region i o d => ⟨.region i o d, rfl, (fun _ h => by cases h), fun {F n Q a w} => ⟨Q, fun _ _ _ h => h, fun h => h⟩⟩
 | .seq a b => ⟨.seq a b, rfl, (fun _ h => by cases h), fun {F n Q a w} => ⟨Q, fun _ _ _ h => h, fun h => h⟩⟩
 | .cond c a b => ⟨.cond c a b, rfl, (fun _ h => by cases h), fun {F n Q a w} => ⟨Q, fun _ _ _ h => h, fun h => h⟩⟩
 | .block i a => ⟨.block i a, rfl, (fun _ h => by cases h), fun {F n Q a w} => ⟨Q, fun _ _ _ h => h, fun h => h⟩⟩
 | .loop a => ⟨.loop a, rfl, (fun _ h => by cases h), fun {F n Q a w} => ⟨Q, fun _ _ _ h => h, fun h => h⟩⟩
 | .rangeFunc f p a b => ⟨.rangeFunc f p a b, rfl, (fun _ h => by cases h), fun {F n Q a w} => ⟨Q, fun _ _ _ h => h, fun h => h⟩⟩
 | .goto l => ⟨.goto l, rfl, (fun _ h => by cases h), fun {F n Q a w} => ⟨Q, fun _ _ _ h => h, fun h => h⟩⟩
 | .refuse s => ⟨.refuse s, rfl, (fun _ h => by cases h), fun {F n Q a w} => ⟨Q, fun _ _ _ h => h, fun h => h⟩⟩
theorem XOk.seqB {a b c b2 : Code} {x y z z' Z : X} {ex : Ex} {B : Pos -> Prop} (hb : ∀ {F : Fence} {n : Nat} {Q : Exit -> Act -> World -> Prop} {a : Act} {w : World}, ∃ Q' : Exit -> Act -> World -> Prop, (∀ (e : Ex) a w, Q e.to a w -> Q' e.to a w) /\ ((Code.seq b c).wpIn F n P Q' a w -> b2.wpIn F n P Q a w))
 (h1 : XOk P nt a x .normal y) (h2 : XOk P nt b y .normal z) (S : ShrB B z z') (hx : ∀ id : Pos, id.nat < x.nx.nat -> B id) (hz : ∀ id : Pos, B id -> id.nat < z'.nx.nat) (hn : x.nx.nat <= z'.nx.nat) (h3 : XOk P nt c z' ex Z) : XOk P nt (.seq a b2) x ex Z := by
 have hl : x.lg = none := (h1.lg.trans h2.lg).none.2 S.l
 have hZ : Z.lg = none := h3.lg.none.1 S.l'
 refine ⟨by rw [hl, hZ]; exact LgLe.refl _, Nat.le_trans hn h3.nx, fun id hn => by rw [hZ] at hn; exact absurd trivial hn, fun so hs ro γ a w hn g R n Q hQ => ?_⟩
 have hall : ∀ id, so id := fun id => hs id (by rw [hZ]; trivial)
 refine wpIn_seq (h1.ok so (fun id _ => hall id) ro γ a w hn g R n _ fun γ1 a1 w1 s1 R1 => ?_)
 obtain ⟨Q', k1, k2⟩ := hb (F := FW ro) (n := n) (Q := Q) (a := a1) (w := w1)
 refine k2 (wpIn_seq (h2.ok so (fun id _ => hall id) ro γ1 a1 w1 (s1.sz.trans hn) s1.g R1 n _ fun γ2 a2 w2 s2 R2 => ?_))
 obtain ⟨γ3, s3, R3⟩ := pL S hx hz hall R (CSt.trans h2.lg s1 s2) R2
 exact h3.ok so hs ro γ3 a2 w2 (s3.sz.trans hn) s3.g R3 n Q' fun γ4 a4 w4 s4 R4 => k1 _ _ _ <| hQ γ4 a4 w4 (CSt.trans h3.lg s3 s4) R4
structure SeqZ (P : Program) (nt : Nat) (c : RC) (x : X) (K : Ex -> X -> Prop) (e : Ex) (z : X) : Prop where
 ok : e = .normal /\ ∃ z' B, ShrB B z z' /\ (∀ id : Pos, id.nat < x.nx.nat -> B id) /\ (∀ id : Pos, B id -> id.nat < z'.nx.nat) /\ x.nx.nat <= z'.nx.nat /\ Rn P nt c z' K
def MZ (P : Program) (nt : Nat) (b c : RC) (x : X) (K : Ex -> X -> Prop) (e : Ex) (y : X) : Prop :=
 match e with
 | .normal => Rn P nt b y (SeqZ P nt c x K)
 | .ret => False
 | .exit _ => False
theorem Rn.seqB {a b c : RC} {x : X} {K : Ex -> X -> Prop} (h : Rn P nt a x (MZ P nt b c x K)) : Rn P nt (.seq a (.seq b c)) x K := Rn.of_bare fun code hc hs => by
 refine other hc hs (fun e => by cases e) (fun _ e => by cases e) (fun j _ e => by cases e) (fun i ops _ e => by cases e) (fun i ops _ e => by cases e) (fun a' b2 e e' => ?_) (fun _ _ _ _ _ _ e => by cases e) (fun _ _ _ e => by cases e) (fun _ _ e => by cases e) (fun _ _ _ _ _ _ _ _ _ e => by cases e) (fun e => by cases e)
 simp only [RC.seq.injEq] at e'
 obtain ⟨e1, e2⟩ := e'
 subst e
 obtain ⟨c1, k1, k2, k3⟩ := Di (P := P) (nt := nt) b2
 refine other (k1.trans e2.symm) k2 (fun e => by cases e) (fun _ e => by cases e) (fun j _ e => by cases e) (fun i ops _ e => by cases e) (fun i ops _ e => by cases e) (fun b' c' e e' => ?_) (fun _ _ _ _ _ _ e => by cases e) (fun _ _ _ e => by cases e) (fun _ _ e => by cases e) (fun _ _ _ _ _ _ _ _ _ e => by cases e) (fun e => by cases e)
 simp only [RC.seq.injEq] at e'
 obtain ⟨e3, e4⟩ := e'
 subst e
 obtain ⟨e, y, h1, h2⟩ := h.ok a' e1.symm
 cases e with
 | normal =>
   obtain ⟨e, z, h3, h4⟩ := h2.ok b' e3.symm
   obtain ⟨rfl, z', B, S, q1, q2, q3, h5⟩ := h4.ok
   obtain ⟨e, Z, h6, h7⟩ := h5.ok c' e4.symm
   exact ⟨e, Z, XOk.seqB k3 h1 h3 S q1 q2 q3 h6, h7⟩
 | ret => exact absurd h2 (fun h => h)
 | exit i => exact absurd h2 (fun h => h)
end
theorem WB.decT {p : Prop} [Decidable p] {F : Bool -> Prop} (h : p) (k : F true) : WB (decide p) F := WB.of (by rw [decide_eq_true h]; exact k)
theorem WB.decF {p : Prop} [Decidable p] {F : Bool -> Prop} (h : ¬ p) (k : F false) : WB (decide p) F := WB.of (by rw [decide_eq_false h]; exact k)
theorem WB.ndT {p : Prop} [Decidable p] {F : Bool -> Prop} (h : p) (k : F false) : WB (!decide p) F := WB.of (by rw [decide_eq_true h]; exact k)
theorem WB.ndF {p : Prop} [Decidable p] {F : Bool -> Prop} (h : ¬ p) (k : F true) : WB (!decide p) F := WB.of (by rw [decide_eq_false h]; exact k)
theorem WB.nt {F : Bool -> Prop} (k : F false) : WB (!true) F := WB.of k
theorem WB.nf {F : Bool -> Prop} (k : F true) : WB (!false) F := WB.of k
theorem WB.at' {b c : Bool} {F : Bool -> Prop} (h : b = c) (k : F c) : WB b F := WB.of (by rw [h]; exact k)
theorem Qm {p : Prop} [Decidable p] {F : Bool -> Prop} (k : F true) (h : p := by first | rfl | assumption | omega | exact ⟨rfl, rfl⟩) : WB (decide p) F := WB.decT h k
theorem Qn {p : Prop} [Decidable p] {F : Bool -> Prop} (k : F false) (h : ¬ p := by first | assumption | omega) : WB (decide p) F := WB.decF h k
theorem Qo {p : Prop} [Decidable p] {F : Bool -> Prop} (k : F false) (h : p := by first | rfl | assumption | omega | exact ⟨rfl, rfl⟩) : WB (!decide p) F := WB.ndT h k
theorem Qp {p : Prop} [Decidable p] {F : Bool -> Prop} (k : F true) (h : ¬ p := by first | assumption | omega) : WB (!decide p) F := WB.ndF h k
theorem Qy {p q : Prop} (k : q) (h : q -> p := by with_reducible (first | exact WB.decT (by first | rfl | assumption | omega | exact ⟨rfl, rfl⟩) | exact WB.decF (by first | assumption | omega) | exact WB.ndT (by first | rfl | assumption | omega | exact ⟨rfl, rfl⟩) | exact WB.ndF (by first | assumption | omega) | exact WB.nt | exact WB.nf)) : p := h k
theorem Qw {p q : Prop} (k : q) (h : q -> p := by first | with_reducible (first | exact WB.tt | exact WB.ff) | exact Qa rfl | exact Rn.cond rfl | exact Np (by omega) (by omega) | exact ML (by omega) | exact WIx.intsN (by omega) | exact WIx.rowsN (by omega) | with_reducible (first | exact WB.decT (by first | rfl | assumption | omega | exact ⟨rfl, rfl⟩) | exact WB.decF (by first | assumption | omega) | exact WB.ndT (by first | rfl | assumption | omega | exact ⟨rfl, rfl⟩) | exact WB.ndF (by first | assumption | omega) | exact WB.nt | exact WB.nf)) : p := h k
theorem Qd {b : Bool} {F : Bool -> Prop} {p n : Prop} (k1 : p -> F true) (k0 : n -> F false) (h : (p -> F true) -> (n -> F false) -> WB b F := by first | with_reducible (first | exact fun a b => WB.dec a b | exact fun a b => WB.ndec a b) | exact fun a b => WB.mk a b) : WB b F := h k1 k0
theorem Qv {p q : Prop} (k : q) (h : q -> p := by first | exact WB.tt | exact WB.ff) : p := h k
open Go.RowKit (Below Grown)
section
variable {ob : T C}
end
section
variable {P : Program} {FP : T RF}
end
set_option maxRecDepth 100000
def iH (n a b : Int) : Bool := decide (a <= n /\ n <= b)
theorem uM (l : List Int) : ∀ r ∈ ints l, r.length = 1 := fun r hr => by
 obtain ⟨n, _, rfl⟩ := List.mem_map.1 hr
 rfl
theorem WSt.ixaN {sl : T D} {ob : T C} {nx : Pos} {lg : Option (T Bool)} {K : X -> Prop} {d id : Pos} {len z off st m : Nat} {k : IntKind} {x i : RX} {n : Int} (hx : bG sl x = some (.pt id off st)) (hi : bG sl i = some (.i k n)) (hn : n = (m : Int)) (hm : m < len) (h : eC sl ob nx lg d K (.pt id (off + m * z) st)) : WSt (.ixa d len z x i) ⟨sl, ob, nx, lg⟩ K := by
 obtain ⟨h2, h3⟩ := bD h
 refine ⟨_, ?_, h3⟩
 show oC d len z x i sl ob nx lg = _
 unfold oC
 rw [hx, hi, hn]
 have e : CM (m : Int) len = some m := by
  show (bif Nat.blt m len then some m else none) = _
  rw [show Nat.blt m len = true from Nat.ble_eq_true_of_le hm]
  rfl
 simp only [e, bF]
 exact h2
theorem Frz.ptr {ob : T C} {id : Pos} {st : Nat} {cs : List Cell} {cur : Nat} {r : List D} (h : ob.get id = some (.cells false cs cur)) (hc : cs = r.map fun d => Cell.o d st) (h0 : 0 < r.length) (hp : aO r) : Frz ob (.pt id 0 st) (.pl r 0) := by
 subst hc
 refine .pt (fun h => h) h h0 (fun k d hk => ⟨.o d st, ?_, ?_, rfl⟩) (FzL.of hp)
 ·rw [List.drop_zero, List.getElem?_map, hk]; rfl
 ·show Nat.ble st st = true
  exact Nat.ble_eq_true_of_le (Nat.le_refl _)
theorem T.le_ee {α : Type} {l r : T α} (hl : T.le l .e) (hr : T.le r .e) : T.le (.n l none r) .e := fun p x h => by
 cases p with
 | h => rw [T.get_h] at h; cases h
 | o p => exact absurd (hl p x h) (by rw [T.get_e]; exact fun h => by cases h)
 | i p => exact absurd (hr p x h) (by rw [T.get_e]; exact fun h => by cases h)
theorem KpO.le {n : Nat} {a b : T C} (h : T.le a b) (k : KpO n b) : KpO n a := fun id c hc => k id c (h id c hc)
theorem ShrB.of {B : Pos -> Prop} {z z' : X} (hs : Rel (RS B z.ob) (fun p => p) z'.sl z.sl) (ho : Rel (fun id c c' => B id /\ ShC B z.ob c c') (fun p => p) z'.ob z.ob) (l : z.lg = none) (l' : z'.lg = none) : ShrB B z z' :=
 ⟨fun s d' h => hs s d' h, fun id c' h => by
  obtain ⟨c, h1, h2, h3⟩ := ho id c' h
  exact ⟨h2, c, h1, h3⟩, l, l'⟩
theorem Rel.ee {α : Type} {R : Pos -> α -> α -> Prop} {g : Pos -> Pos} {l r : T α} (hl : Rel R (fun p => g (.o p)) l .e) (hr : Rel R (fun p => g (.i p)) r .e) : Rel R g (.n l Option.none r) .e := fun p x h => by
 cases p with
 | h => rw [T.get_h] at h; cases h
 | o p => obtain ⟨y, h1, _⟩ := hl p x h; rw [T.get_e] at h1; cases h1
 | i p => obtain ⟨y, h1, _⟩ := hr p x h; rw [T.get_e] at h1; cases h1
theorem Fz.grown {B : Pos -> Prop} {ob : T C} {id : Pos} {s1 s2 cur n z : Nat} {ds r : List D} {cs : List Cell} {es : List (List D)} (hB : ¬ B id) (h : ob.get id = some (.cells false cs cur)) (hc : cs = (ds.map fun d => Cell.o d s1) ++ r.map fun d => Cell.o d s2) (hs : s1 <= s2) (he : es.flatten = ds ++ r) (hn : n = es.length) (hz : ∀ x ∈ es, x.length = z) (hp : cZ es) : Fz B ob (.sl id 0 n s2 z) (.lst z es) := by
 subst hc
 refine .sl hB h hn.symm hz (fun k d hk => ?_) (FzE.of hp)
 rw [he] at hk
 rw [List.drop_zero]
 by_cases hlt : k < ds.length
 ·rw [List.getElem?_append_left hlt] at hk
  refine ⟨.o d s1, ?_, Nat.ble_eq_true_of_le hs, rfl⟩
  rw [List.getElem?_append_left (by simpa using hlt), List.getElem?_map, hk]; rfl
 ·rw [List.getElem?_append_right (by omega)] at hk
  refine ⟨.o d s2, ?_, Nat.ble_eq_true_of_le (Nat.le_refl _), rfl⟩
  rw [List.getElem?_append_right (by simp; omega), List.length_map, List.getElem?_map, hk]; rfl
theorem AE {β : Type} (new : List D) (k : List Cell -> Option β) : rK 0 1 new 0 [] k = k (new.map fun d => Cell.o d 1) := by
 show nY (Nat.pred 1) (dN (List.length new) []) (fun l => iZ (fun d => .o d 1) new l k) = _
 rw [bX, lS, hH]
 simp
theorem WSt.app_emp {sl : T D} {ob : T C} {nx : Pos} {K : X -> Prop} {d id : Pos} {z : Nat} {x y : RX} {es : List (List D)} (hx : bG sl x = some (.sl id 0 0 0 z)) (hox : ob.get id = some (.cells false [] 1)) (hy : bG sl y = some (.lst z es)) (hz : ∀ r ∈ es, r.length = z) (hlen : es.length <= 2147483648)
 (h : ∀ st, T.setK id (.cells false (es.flatten.map fun d => Cell.o d st) (st + 1)) ob fun ob => eC sl ob nx none d K (.sl id 0 es.length st z)) : WSt (.app d z x y) ⟨sl, ob, nx, none⟩ K := by
 have hfl : es.flatten.length = es.length * z := by
  clear hlen hy h
  induction es with
  | nil => simp
  | cons r es ih => simp [ih (fun r h => hz r (by simp [h])), hz r (by simp), Nat.add_mul]; omega
 have hb : (Nat.beq z z && Nat.beq (List.length (List.flatten es)) (Nat.mul (List.length es) z)) = true := by
  rw [hfl]; simp
 cases hk : es.length with
 | zero =>
   have he : es = [] := List.length_eq_zero_iff.1 hk
   subst he
   have h0 := h 0
   rw [T.setK_eq] at h0
   have h0 : eC sl (T.set id (C.cells false [] 1) ob) nx none d K (D.sl id 0 0 0 z) := h0
   rw [T.set_get hox] at h0
   obtain ⟨h2, h3⟩ := bD h0
   refine ⟨_, ?_, h3⟩
   show fH d z x y sl ob nx none = _
   unfold fH
   rw [hx, hy]
   have hb : Nat.beq (List.length (List.flatten ([] : List (List D)))) (Nat.mul 0 z) = true := by simp
   simp only [rC, hb, cond_true, Bool.and_self, tB, List.length_nil, gX, hox, Nat.beq_refl]
   exact h2
 | succ k =>
   have h1 := h 1
   rw [T.setK_eq] at h1
   obtain ⟨h2, h3⟩ := bD h1
   refine ⟨_, ?_, h3⟩
   show fH d z x y sl ob nx none = _
   unfold fH
   rw [hx, hy]
   rw [hk] at hlen h2 hb
   have hle : Nat.ble (Nat.add 0 (Nat.succ k)) 2147483648 = true := Nat.ble_eq_true_of_le (by simpa using hlen)
   have hb : Nat.beq (List.length (List.flatten es)) (Nat.mul (k + 1) z) = true := by rw [hfl, hk]; simp
   have hm : Nat.add 0 (Nat.mul 0 z) = 0 := by show 0 + 0 * z = 0; simp
   simp only [rC, hk, hb, cond_true, tB, Nat.beq_refl, Bool.true_and, hle, hox, hm, AE, bF, gN, rG, T.setK_eq]
   have e1 : Nat.add 0 (Nat.succ k) = k + 1 := by show 0 + (k + 1) = k + 1; omega
   rw [e1]
   exact h2
section
variable {sl : T D} {ob : T C} {nx : Pos} {K : X -> Prop}
theorem WSt.eqr2 {lg : Option (T Bool)} {d : Pos} {x y : RX} {a b a' b' : Int} (h1 : bG sl x = some (.ag [.i .i64 a, .i .i64 b])) (h2 : bG sl y = some (.ag [.i .i64 a', .i .i64 b'])) (w1 : Aq .i64 a = true) (w2 : Aq .i64 b = true) (w3 : Aq .i64 a' = true) (w4 : Aq .i64 b' = true) (k : eC sl ob nx lg d K (.b (decide (a = a' /\ b = b')))) :
 WSt (.eqr d false [.i .i64, .i .i64] x y) ⟨sl, ob, nx, lg⟩ K := by
 obtain ⟨k1, k2⟩ := bD k
 refine ⟨_, ?_, k2⟩
 show rQ _ _ _ x y sl ob nx lg = _
 unfold rQ
 rw [h1, h2]
 have e : Bm [.i .i64, .i .i64] (.ag [.i .i64 a, .i .i64 b]) (.ag [.i .i64 a', .i .i64 b']) = some (decide (a = a' /\ b = b')) := by
  have hk : rA .i64 .i64 = true := rfl
  simp only [Bm, Em, Nl, hk, w1, w2, w3, w4, Bool.and_self, cond_true, Option.some.injEq]
  simp only [lH, Bool.decide_and]
  have hb : ∀ a b : Int, (a == b) = decide (a = b) := fun a b => by by_cases h : a = b <;> simp [h]
  simp only [hb, Bool.and_true]
 simp only [e, cond_false, bH]
 exact k1
end
theorem qX {α : Type} {l : List α} {p : α -> Bool} {i : Nat} {d : α} (h : i < l.length) : (l.take (i + 1)).any p = ((l.take i).any p || p (l.getD i d)) := by
 rw [eD (d := d) h, List.any_append]
 simp
structure FinX (rs : List RR) (Φ : D -> Prop) (e : Ex) (z : X) : Prop where
 ok : ∃ v, Φ v /\ Fin rs v e z
theorem PureF.runE {P : Program} {f nt : Nat} {rc : RC} {rs : List RR} {ds : List D} {Φ : D -> Prop} (F : FnOk P f nt rc rs) (hlen : ds.length <= nt) (hp : aO ds) (h : oB ds .h .e fun sl => Rn P nt rc ⟨sl, .e, .h, none⟩ (FinX rs Φ)) : ∃ v, Φ v /\ PureF P f ds v := by
 obtain ⟨fn, c, hf, hb, hc, hr, hname, h6⟩ := F.ok
 subst h6
 obtain ⟨sl0, h, hsl⟩ := lW h
 obtain ⟨e, ⟨sl, ob1, nx1, lg1⟩, X1, FE⟩ := h.ok c hc
 obtain ⟨v, hΦ, F⟩ := FE.ok
 obtain ⟨u, h1, h2⟩ := F.hr
 obtain ⟨v', ob', nx', lg', h3, C⟩ := mU (k := fun v ob nx lg => some ⟨T.set .h v .e, ob, nx, lg⟩) hf hb hr hname hlen hsl F.he X1 h1
 have h3 := Option.some.inj h3
 have e1 := congrArg (fun t => T.get t .h) (X.mk.inj h3).1
 simp only [T.get_set_same, Option.some.injEq] at e1
 have e2 := (X.mk.inj h3).2.1
 have e3 : ob' = ob1 := e2
 subst e1
 subst e3
 exact ⟨v, hΦ, C.shut hp h2⟩
theorem bI {n a b : Int} (h : iH n a b = true) : a <= n /\ n <= b := by unfold iH at h; exact of_decide_eq_true h
theorem Lw {α : Type} {a b : T α} (h : T.le a b := by repeat' first | exact T.le_e _ | exact T.le_refl _ | refine T.le_some ?_ rfl ?_ | refine T.le_none ?_ ?_ | refine T.le_ee ?_ ?_) : T.le a b := h
section
variable {α : Type}
def AR (id : Pos) (z : Nat) : List α -> D
 | [] => .ns
 | _ :: s => .sl id 0 (s.length + 1) s.length z
def Bj (f : α -> List D) : List α -> Option C
 | [] => none
 | a :: s => some (.cells false ((aD f (a :: s)).flatten.map fun d => Cell.o d s.length) (s.length + 1))
def iU (p q : Pos) : List α -> Pos
 | [] => p
 | _ :: _ => q
variable {f : α -> List D}
theorem qG (A : List α) (x : α) : (aD f (A ++ [x])).flatten = (aD f A).flatten ++ f x := by simp [aD]
theorem eL {z : Nat} (hz : ∀ a, (f a).length = z) (A : List α) : (aD f A).flatten.length = A.length * z := by
 induction A with
 | nil => simp [aD]
 | cons a s ih =>
   show (f a ++ (aD f s).flatten).length = _
   rw [List.length_append, hz, ih, List.length_cons, Nat.add_mul]; omega
theorem fY (hp : ∀ a, aO (f a)) (A : List α) : aO (aD f A).flatten := aV.2 fun d hd => by
 obtain ⟨r, hr, hd⟩ := List.mem_flatten.1 hd
 obtain ⟨a, _, rfl⟩ := List.mem_map.1 hr
 exact aV.1 (hp a) d hd
theorem hG {id : Pos} {z : Nat} (a : α) (s : List α) (x : α) : AR id z (a :: (s ++ [x])) = .sl id 0 (s.length + 1 + 1) (s.length + 1) z := by simp [AR]
theorem iA (a : α) (s : List α) (x : α) : Bj f (a :: (s ++ [x])) = some (.cells false (((aD f (a :: s)).flatten ++ f x).map fun d => Cell.o d (s.length + 1)) (s.length + 1 + 1)) := by
 have h2 : (aD f (a :: (s ++ [x]))).flatten = (aD f (a :: s)).flatten ++ f x := qG (a :: s) x
 show some (Ev.C.cells false ((aD f (a :: (s ++ [x]))).flatten.map fun d => Cell.o d (s ++ [x]).length) ((s ++ [x]).length + 1)) = _
 rw [h2, List.length_append, List.length_singleton]
theorem Fz.G {B : Pos -> Prop} {ob : T C} {id : Pos} {z : Nat} (A : List α) (hB : ¬ B id) (ho : ∀ c, Bj f A = some c -> ob.get id = some c) (hz : ∀ a, (f a).length = z) (hp : ∀ a, aO (f a)) : Fz B ob (AR id z A) (.lst z (aD f A)) := by
 cases A with
 | nil => exact .ns
 | cons a s =>
   refine .sl (cs := (aD f (a :: s)).flatten.map fun d => Cell.o d s.length) hB (ho _ rfl) (by rw [aK]; rfl) (fun r hr => ?_) (fun k d hk => ⟨.o d s.length, ?_, ?_, rfl⟩) (FzE.of (fK hp _))
   ·obtain ⟨a, _, rfl⟩ := List.mem_map.1 hr
    exact hz a
   ·rw [List.drop_zero, List.getElem?_map, hk]; rfl
   ·show Nat.ble s.length s.length = true
    exact Nat.ble_eq_true_of_le (Nat.le_refl _)
theorem ShC.G {B : Pos -> Prop} {ob : T C} (hp : ∀ a, aO (f a)) (a : α) (s : List α) : ShC B ob (.cells false ((aD f (a :: s)).flatten.map fun d => Cell.o d s.length) (s.length + 1)) (.cells false ((aD f (a :: s)).flatten.map fun d => Cell.o d s.length) (s.length + 1)) :=
 ShC.same fun c hc => by
  obtain ⟨d, hd, rfl⟩ := List.mem_map.1 hc
  exact .pu (aV.1 (fY hp _) d hd)
end
open Go.RowKit (Below Grown)
open Classical in
def iQ (nx : Pos) (ρ : Pos -> Pos) (γ : Gh) : Gh := ⟨fun j => if j.nat < nx.nat then γ.cur (ρ j) else 0, fun j => γ.β (ρ j), γ.im⟩
def sU (τ : Pos -> Option Pos) (γ γ' : Gh) : Gh := ⟨fun id => match τ id with | some j => γ'.cur j | none => γ.cur id, fun id => match τ id with | some j => γ'.β j | none => γ.β id, γ'.im⟩
structure Ren (nx : Pos) (ρ : Pos -> Pos) (τ : Pos -> Option Pos) : Prop where
 a : ∀ j : Pos, j.nat < nx.nat -> τ (ρ j) = some j
 b : ∀ id j : Pos, τ id = some j -> j.nat < nx.nat /\ ρ j = id
section
variable {nx : Pos} {ρ : Pos -> Pos} {τ : Pos -> Option Pos} {γ γ' : Gh} {w w' : World}
theorem eZ {j : Pos} (h : j.nat < nx.nat) : (iQ nx ρ γ).cur j = γ.cur (ρ j) := by show (if _ then _ else _) = _; rw [if_pos h]
theorem jY {j : Pos} (h : ¬ j.nat < nx.nat) : (iQ nx ρ γ).cur j = 0 := by show (if _ then _ else _) = _; rw [if_neg h]
theorem eE {j : Pos} {st : Nat} (h : st < (iQ nx ρ γ).cur j) : j.nat < nx.nat /\ st < γ.cur (ρ j) := by
 by_cases hj : j.nat < nx.nat
 ·rw [eZ hj] at h; exact ⟨hj, h⟩
 ·rw [jY hj] at h; exact absurd h (Nat.not_lt_zero _)
theorem mK : ∀ b, γ.im b -> (iQ nx ρ γ).im b := fun _ h => h
theorem Dh : ∀ b, γ'.im b -> (sU τ γ γ').im b := fun _ h => h
theorem dX {id j : Pos} (h : τ id = some j) : (sU τ γ γ').cur id = γ'.cur j := by show (match τ id with | some j => _ | none => _) = _; rw [h]
theorem dC {id : Pos} (h : τ id = none) : (sU τ γ γ').cur id = γ.cur id := by show (match τ id with | some j => _ | none => _) = _; rw [h]
theorem gT {id j : Pos} (h : τ id = some j) : (sU τ γ γ').β id = γ'.β j := by show (match τ id with | some j => _ | none => _) = _; rw [h]
theorem jS {id : Pos} (h : τ id = none) : (sU τ γ γ').β id = γ.β id := by show (match τ id with | some j => _ | none => _) = _; rw [h]
theorem Ren.inj (R : Ren nx ρ τ) {i j : Pos} (hi : i.nat < nx.nat) (hj : j.nat < nx.nat) (h : ρ i = ρ j) : i = j := by
 have h1 := R.a i hi
 rw [h, R.a j hj] at h1
 exact (Option.some.inj h1).symm
theorem tN (R : Ren nx ρ τ) (gh : GH γ w) : GH (iQ nx ρ γ) w :=
 ⟨fun id st hst => gh.ob _ st (eE hst).2, fun id st id' st' hst hst' he => by
  obtain ⟨h1, h2⟩ := gh.inj _ st _ st' (eE hst).2 (eE hst').2 he
  exact ⟨R.inj (eE hst).1 (eE hst').1 h1, h2⟩, fun b hb => ⟨(gh.im b hb).1, fun id st hst => (gh.im b hb).2 _ st (eE hst).2⟩, gh.gl.im fun _ h => h⟩
theorem Eq (R : Ren nx ρ τ) {S : Pos -> Prop} (gh : GH γ w) (F : Fr S (iQ nx ρ γ) γ' w w') {j : Pos} {st : Nat} (hj : j.nat < nx.nat) (hst : st < γ'.cur j) : w.heap.size <= (γ'.β j st).1 \/ ∃ gB, gB < γ.cur (ρ j) /\ (γ'.β j st).1 = (γ.β (ρ j) gB).1 := by
 by_cases h : st < (iQ nx ρ γ).cur j
 ·rw [F.up.β j st h]
  exact .inr ⟨st, (eE h).2, rfl⟩
 ·rcases F.new j st (Nat.not_lt.1 h) hst with h1 | ⟨gB, h1, h2⟩
  ·exact .inl h1
  ·exact .inr ⟨gB, (eE h1).2, h2⟩
theorem Dg (R : Ren nx ρ τ) {S : Pos -> Prop} (gh : GH γ w) (gh' : GH γ' w') (F : Fr S (iQ nx ρ γ) γ' w w') : GH (sU τ γ γ') w' := by
 have mix : ∀ id j st id' st', τ id = some j -> τ id' = none -> st < γ'.cur j -> st' < γ.cur id' -> (γ'.β j st).1 ≠ (γ.β id' st').1 := fun id j st id' st' h1 h2 h3 h4 e => by
  obtain ⟨hj, hr⟩ := R.b id j h1
  rcases Eq R gh F hj h3 with h5 | ⟨gB, h5, h6⟩
  ·have := gh.ob id' st' h4; omega
  ·obtain ⟨h7, _⟩ := gh.inj _ gB id' st' h5 h4 (h6.symm.trans e)
   rw [<- h7, hr, h1] at h2
   cases h2
 refine ⟨fun id st hst => ?_, fun id st id' st' hst hst' he => ?_, fun b hb => ?_, gh'.gl.im fun _ h => h⟩
 ·cases ht : τ id with
  | some j => rw [dX ht] at hst; rw [gT ht]; exact gh'.ob j st hst
  | none => rw [dC ht] at hst; rw [jS ht]; exact Nat.lt_of_lt_of_le (gh.ob id st hst) F.size
 ·cases ht : τ id with
  | some j =>
    rw [dX ht] at hst
    rw [gT ht] at he ⊢
    cases ht' : τ id' with
    | some j' =>
      rw [dX ht'] at hst'
      rw [gT ht'] at he ⊢
      obtain ⟨h1, h2⟩ := gh'.inj j st j' st' hst hst' he
      exact ⟨by rw [<- (R.b id j ht).2, <- (R.b id' j' ht').2, h1], h2⟩
    | none =>
      rw [dC ht'] at hst'
      rw [jS ht'] at he
      exact absurd he (mix id j st id' st' ht ht' hst hst')
  | none =>
    rw [dC ht] at hst
    rw [jS ht] at he ⊢
    cases ht' : τ id' with
    | some j' =>
      rw [dX ht'] at hst'
      rw [gT ht'] at he
      exact absurd he.symm (mix id' j' st' id st ht' ht hst' hst)
    | none =>
      rw [dC ht'] at hst'
      rw [jS ht'] at he ⊢
      exact gh.inj id st id' st' hst hst' he
 ·refine ⟨(gh'.im b hb).1, fun id st hst => ?_⟩
  cases ht : τ id with
  | some j => rw [dX ht] at hst; rw [gT ht]; exact (gh'.im b hb).2 j st hst
  | none =>
    rw [dC ht] at hst; rw [jS ht]
    intro e
    have hlt := gh.ob id st hst
    rw [e] at hlt
    exact (gh.im b (F.imn b hb hlt)).2 id st hst e
theorem Cu (R : Ren nx ρ τ) {S : Pos -> Prop} (F : Fr S (iQ nx ρ γ) γ' w w') : Up γ (sU τ γ γ') w w' := by
 refine ⟨fun id => ?_, fun id st hst => ?_, F.up.sh, F.up.im⟩
 ·cases ht : τ id with
  | some j =>
    obtain ⟨hj, hr⟩ := R.b id j ht
    have := F.up.cur j
    rw [eZ hj, hr] at this
    rw [dX ht]; exact this
  | none => rw [dC ht]; exact Nat.le_refl _
 ·cases ht : τ id with
  | some j =>
    obtain ⟨hj, hr⟩ := R.b id j ht
    have := F.up.β j st (by rw [eZ hj, hr]; exact hst)
    rw [gT ht, this]
    show γ.β (ρ j) st = _
    rw [hr]
  | none => rw [jS ht]
theorem BJ (R : Ren nx ρ τ) {S W : Pos -> Prop} (hW : ∀ id j, τ id = some j -> W id) (F : Fr S (iQ nx ρ γ) γ' w w') : Fr W γ (sU τ γ γ') w w' := by
 refine ⟨Cu R F, fun id hn => ?_, fun b hb hn => F.blk b hb fun j st _ hst e => ?_, fun id st h1 h2 => ?_, F.imn, F.lp, F.size, F.os, F.tape, F.output, F.fz⟩
 ·cases ht : τ id with
  | some j => exact absurd (hW id j ht) hn
  | none => exact dC ht
 ·obtain ⟨hj, hst⟩ := eE hst
  exact hn (ρ j) st (hW _ j (R.a j hj)) hst e
 ·cases ht : τ id with
  | some j =>
    obtain ⟨hj, hr⟩ := R.b id j ht
    rw [dX ht] at h2
    rw [gT ht]
    rcases F.new j st (by rw [eZ hj, hr]; exact h1) h2 with h3 | ⟨gB, h3, h4⟩
    ·exact .inl h3
    ·have h3 := (eE h3).2
     rw [hr] at h3
     refine .inr ⟨gB, h3, ?_⟩
     rw [h4]
     show (γ.β (ρ j) gB).1 = _
     rw [hr]
  | none => rw [dC ht] at h2; omega
theorem wC (R : Ren nx ρ τ) {P : Program} {S : Pos -> Prop} (gh : GH γ w) (F : Fr S (iQ nx ρ γ) γ' w w') {id : Pos} {c : C} (ht : τ id = none) (H : HoldsO P γ w id c) : HoldsO P (sU τ γ γ') w' id c :=
 HoldsO.mono (Cu R F) (dC ht) (fun st hst => F.blk _ (gh.ob id st hst) fun j st' _ hst' e => by
  obtain ⟨hj, hst'⟩ := eE hst'
  obtain ⟨h1, _⟩ := gh.inj _ st' id st hst' hst e
  rw [<- h1, R.a j hj] at ht
  cases ht) H
end
section
variable {γ γ' : Gh} {w : World} {n : Nat}
mutual
theorem DV.kp (him : ∀ b, γ.im b -> γ'.im b) (hc : ∀ id : Pos, id.nat < n -> γ'.cur id = γ.cur id /\ γ'.β id = γ.β id) : ∀ (d : D) (v : Value), Kp n d -> DV γ w d v -> DV γ' w d v
 | .pt id off st, v, p, H => by
   unfold Kp at p
   obtain ⟨h1, h2⟩ := hc id p
   unfold DV at *
   rw [h1, h2]; exact H
 | .sl id off len st z, v, p, H => by
   unfold Kp at p
   obtain ⟨h1, h2⟩ := hc id p
   unfold DV at *
   rw [h1, h2]; exact H
 | .mp id, v, p, H => by
   unfold Kp at p
   obtain ⟨h1, h2⟩ := hc id p
   unfold DV at *
   rw [h1, h2]; exact H
 | .yl id, v, p, H => by
   unfold Kp at p
   obtain ⟨h1, h2⟩ := hc id p
   unfold DV at *
   rw [h1, h2]; exact H
 | .ag cs, _, p, H => by
   unfold Kp at p
   unfold DV at *
   obtain ⟨vs, h1, h2, h3⟩ := H
   exact ⟨vs, h1, DVL.kp him hc cs _ p h2, h3⟩
 | .tp cs, _, p, H => by
   unfold Kp at p
   unfold DV at *
   obtain ⟨vs, h1, h2⟩ := H
   exact ⟨vs, h1, DVL.kp him hc cs _ p h2⟩
 | .fn _ x y, _, p, H => by
   unfold Kp at p
   unfold DV at *
   obtain ⟨vx, vy, h1, h2, h3⟩ := H
   exact ⟨vx, vy, h1, DVL.kp him hc x _ p.1 h2, DVL.kp him hc y _ p.2 h3⟩
 | .any, _, p, H => by unfold Kp at p; exact DV.pu him _ _ p H
 | .b _, _, p, H => by unfold Kp at p; exact DV.pu him _ _ p H
 | .i _ _, _, p, H => by unfold Kp at p; exact DV.pu him _ _ p H
 | .s _, _, p, H => by unfold Kp at p; exact DV.pu him _ _ p H
 | .np, _, p, H => by unfold Kp at p; exact DV.pu him _ _ p H
 | .nf, _, p, H => by unfold Kp at p; exact DV.pu him _ _ p H
 | .ni, _, p, H => by unfold Kp at p; exact DV.pu him _ _ p H
 | .nm, _, p, H => by unfold Kp at p; exact DV.pu him _ _ p H
 | .ns, _, p, H => by unfold Kp at p; exact DV.pu him _ _ p H
 | .em, _, p, H => by unfold Kp at p; exact DV.pu him _ _ p H
 | .ifc _ _, _, p, H => by unfold Kp at p; exact DV.pu him _ _ p H
 | .lst _ _, _, p, H => by unfold Kp at p; exact DV.pu him _ _ p H
 | .pl _ _, _, p, H => by unfold Kp at p; exact DV.pu him _ _ p H
theorem DVL.kp (him : ∀ b, γ.im b -> γ'.im b) (hc : ∀ id : Pos, id.nat < n -> γ'.cur id = γ.cur id /\ γ'.β id = γ.β id) : ∀ (ds : List D) (vs : List Value), KpL n ds -> DVL γ w ds vs -> DVL γ' w ds vs
 | [], _, _, H => by unfold DVL at *; exact H
 | d :: ds, _, p, H => by
   unfold KpL at p
   unfold DVL at *
   obtain ⟨v, r, h1, h2, h3⟩ := H
   exact ⟨v, r, h1, DV.kp him hc d v p.1 h2, DVL.kp him hc ds r p.2 h3⟩
end
theorem HoldsO.kp {P : Program} (him : ∀ b, γ.im b -> γ'.im b) (hc : ∀ id : Pos, id.nat < n -> γ'.cur id = γ.cur id /\ γ'.β id = γ.β id) {id : Pos} (hid : id.nat < n) : ∀ {c : C}, KpC n c -> HoldsO P γ w id c -> HoldsO P γ' w id c
 | .cells ro cs cur, k, H => by
   obtain ⟨h0, h1, h2⟩ := H
   obtain ⟨e1, e2⟩ := hc id hid
   refine ⟨h0, e1.trans h1, fun st hst => ?_⟩
   obtain ⟨vs, e, fr, h3, h4, h5⟩ := h2 st hst
   rw [e2]
   exact ⟨vs, e, fr, h3, h4, fun p c hp hh hd => by
    obtain ⟨u, h6, h7, h8⟩ := h5 p c hp hh hd
    exact ⟨u, h6, DV.kp him hc _ _ (k c (List.mem_of_getElem? hp)) h7, h8⟩⟩
 | .map es, k, H => by
   obtain ⟨h1, en, cl, h2, h3, h4⟩ := H
   obtain ⟨e1, e2⟩ := hc id hid
   refine ⟨e1.trans h1, en, cl, by rw [e2]; exact h2, h3, fun i e f he hf => ?_⟩
   obtain ⟨k1, k2⟩ := k e (List.mem_of_getElem? he)
   exact ⟨DV.kp him hc _ _ k1 (h4 i e f he hf).1, DV.kp him hc _ _ k2 (h4 i e f he hf).2⟩
 | .lp sl ps nt asg body st jump, k, H => by
   obtain ⟨h1, l, h2, h3, h4, h5, h6⟩ := H
   obtain ⟨e1, e2⟩ := hc id hid
   refine ⟨e1.trans h1, l, by rw [e2]; exact h2, h3, h4, fun s d hs => ⟨(h5 s d hs).1, DV.kp him hc _ _ (k s d hs) (h5 s d hs).2⟩, h6⟩
 | .hole, _, H => (hc id hid).1.trans H
end
open Classical in
def qK (nx : Pos) (id : Pos) : Option Pos := if id.nat < nx.nat then some id else none
theorem mH {nx id : Pos} (h : id.nat < nx.nat) : qK nx id = some id := by unfold qK; rw [if_pos h]
theorem tH {nx id : Pos} (h : ¬ id.nat < nx.nat) : qK nx id = none := by unfold qK; rw [if_neg h]
theorem Ren.id (nx : Pos) : Ren nx (fun j => j) (qK nx) := ⟨fun j h => mH h, fun id j h => by
 by_cases hid : id.nat < nx.nat
 ·rw [mH hid] at h; cases h; exact ⟨hid, rfl⟩
 ·rw [tH hid] at h; cases h⟩
structure Beside (nx : Pos) (ob' obR obR' : T C) : Prop where
 lo : ∀ id c, id.nat < nx.nat -> obR'.get id = some c -> ob'.get id = some c
 hi : ∀ id : Pos, nx.nat <= id.nat -> obR'.get id = obR.get id
theorem EE {nx : Pos} {γ γ' : Gh} {w : World} (hz : ∀ id : Pos, nx.nat <= id.nat -> γ'.cur id = 0) : Up γ' (sU (qK nx) γ γ') w w := by
 refine ⟨fun id => ?_, fun id st hst => ?_, fun _ _ h => h, fun b hb => ⟨hb, fun _ h => h⟩⟩
 ·by_cases hid : id.nat < nx.nat
  ·rw [dX (mH hid)]; exact Nat.le_refl _
  ·rw [hz id (Nat.not_lt.1 hid)]; exact Nat.zero_le _
 ·by_cases hid : id.nat < nx.nat
  ·rw [gT (mH hid)]
  ·rw [hz id (Nat.not_lt.1 hid)] at hst; exact absurd hst (Nat.not_lt_zero _)
section
variable {P : Program} {nx nx2 : Pos} {ob ob' obR obR' : T C} {lg lg' : Option (T Bool)} {ds : List D} {v : D}
theorem rO {so : Pos -> Prop} {γ γ' : Gh} {w w' : World} (hx : nx.nat <= nx2.nat) (hb : Beside nx ob' obR obR') (hw : ∀ id : Pos, id.nat < nx.nat -> wrtn lg' id) (gh : GH γ w) (hob : ∀ id c, so id -> obR.get id = some c -> HoldsO P γ w id c) (hnx : ∀ id : Pos, so id -> nx2.nat <= id.nat -> γ.cur id = 0)
 {S : Pos -> Prop} (gh' : GH γ' w') (F : Fr S (iQ nx (fun j => j) γ) γ' w w') (ho : ∀ id c, ob'.get id = some c -> HoldsO P γ' w' id c) (hn : ∀ id : Pos, nx.nat <= id.nat -> γ'.cur id = 0) :
 GH (sU (qK nx) γ γ') w' /\ Fr (wrtn lg') γ (sU (qK nx) γ γ') w w' /\ (∀ d u, DV γ' w' d u -> DV (sU (qK nx) γ γ') w' d u) /\ (∀ id c, so id -> obR'.get id = some c -> HoldsO P (sU (qK nx) γ γ') w' id c) /\ ∀ id : Pos, so id -> nx2.nat <= id.nat -> (sU (qK nx) γ γ').cur id = 0 := by
 have R := Ren.id nx
 have U := EE (γ := γ) (w := w') hn
 refine ⟨Dg R gh gh' F, BJ R (fun id j h => hw id (by obtain ⟨h1, h2⟩ := R.b id j h; exact h2 ▸ h1)) F, fun d u h => DV.mono U d u h, fun id c hid hc => ?_, fun id hid hle => ?_⟩
 ·by_cases h : id.nat < nx.nat
  ·exact HoldsO.mono U (dX (mH h)) (fun _ _ => rfl) (ho id c (hb.lo id c h hc))
  ·rw [hb.hi id (Nat.not_lt.1 h)] at hc
   exact wC R gh F (tH h) (hob id c hid hc)
 ·have h : ¬ id.nat < nx.nat := by omega
  rw [dC (tH h)]
  exact hnx id hid hle
theorem kC {γ : Gh} (id : Pos) (h : id.nat < nx.nat) : (iQ nx (fun j => j) γ).cur id = γ.cur id /\ (iQ nx (fun j => j) γ).β id = γ.β id := ⟨eZ h, rfl⟩
theorem CallOk.frame {f : FuncId} (h : CallOk P f ds ob nx none v ob' nx none) (hle : T.le ob obR) (hk : KpO nx.nat ob) (hd : KpL nx.nat ds) (hb : Beside nx ob' obR obR') (hx : nx.nat <= nx2.nat) (hl : LgLe lg lg') (hw : ∀ id : Pos, id.nat < nx.nat -> wrtn lg' id) : CallOk P f ds obR nx2 lg v obR' nx2 lg' := by
 refine ⟨hl, Nat.le_refl _, fun id hn => hb.hi id (Nat.not_lt.1 fun h => hn (hw id h)), fun so hs γ args w gh hargs hob hnx => ?_⟩
 have hso : ∀ id : Pos, id.nat < nx.nat -> so id := fun id h => hs id (hw id h).tchd
 obtain ⟨c1, c2⟩ := h.ok (fun _ => True) (fun _ _ => trivial) (iQ nx (fun j => j) γ) args w (tN (Ren.id nx) gh) (DVL.kp (mK (nx := nx) (ρ := fun j => j) (γ := γ)) kC _ _ hd hargs) (fun id c _ hc => HoldsO.kp (mK (nx := nx) (ρ := fun j => j) (γ := γ)) kC (hk id c hc).1 (hk id c hc).2 (hob id c (hso id (hk id c hc).1) (hle id c hc))) (fun id _ hid => jY (Nat.not_lt.2 hid))
 refine ⟨c1, fun ro n Q hQ => c2 ro n Q fun γ' w' u gh' F hu ho hn => ?_⟩
 obtain ⟨k1, k2, k3, k4, k5⟩ := rO (so := so) (ob' := ob') hx hb hw gh hob hnx gh' F (fun id c hc => ho id c trivial hc) (fun id hid => hn id trivial hid)
 exact hQ _ w' u k1 k2 (k3 _ _ hu) k4 k5
theorem RndOk.frame {id : Pos} (h : RndOk P id ds ob nx none v ob' nx none) (hid : id.nat < nx.nat) (hle : T.le ob obR) (hk : KpO nx.nat ob) (hd : KpL nx.nat ds) (hb : Beside nx ob' obR obR') (hx : nx.nat <= nx2.nat) (hl : LgLe lg lg') (hw : ∀ id : Pos, id.nat < nx.nat -> wrtn lg' id) : RndOk P id ds obR nx2 lg v obR' nx2 lg' := by
 refine ⟨hl, Nat.le_refl _, fun id hn => hb.hi id (Nat.not_lt.1 fun h => hn (hw id h)), fun so hs γ args w gh hargs hob hnx hcur => ?_⟩
 have hso : ∀ id : Pos, id.nat < nx.nat -> so id := fun id h => hs id (hw id h).tchd
 obtain ⟨fn, tmps, asg, body, c1, c2⟩ := h.ok (fun _ => True) (fun _ _ => trivial) (iQ nx (fun j => j) γ) args w (tN (Ren.id nx) gh) (DVL.kp (mK (nx := nx) (ρ := fun j => j) (γ := γ)) kC _ _ hd hargs) (fun id c _ hc => HoldsO.kp (mK (nx := nx) (ρ := fun j => j) (γ := γ)) kC (hk id c hc).1 (hk id c hc).2 (hob id c (hso id (hk id c hc).1) (hle id c hc))) (fun id _ hid => jY (Nat.not_lt.2 hid)) (by rw [eZ hid]; exact hcur)
 refine ⟨fn, tmps, asg, body, c1, fun ro n Q hQ => c2 ro n Q fun γ' w' u gh' F hu ho hn => ?_⟩
 obtain ⟨k1, k2, k3, k4, k5⟩ := rO (so := so) (ob' := ob') hx hb hw gh hob hnx gh' F (fun id c hc => ho id c trivial hc) (fun id hid => hn id trivial hid)
 exact hQ _ w' u k1 k2 (k3 _ _ hu) k4 k5
theorem WCall.fr {f : Nat} {d : Option Pos} {sl : T D} {K : X -> Prop} (h : CallOk P f ds ob nx none v ob' nx none) (hle : T.le ob obR) (hk : KpO nx.nat ob) (hd : KpL nx.nat ds) (hb : Beside nx ob' obR obR') (hx : nx.nat <= nx2.nat) (hl : LgLe lg lg') (hw : ∀ id : Pos, id.nat < nx.nat -> wrtn lg' id) (k : lK sl obR' nx2 lg' d K v) : WCall P f ds d ⟨sl, obR, nx2, lg⟩ K := by
 have C := h.frame hle hk hd hb hx hl hw
 cases d with
 | none => exact ⟨v, _, _, _, _, C, rfl, k⟩
 | some d =>
   obtain ⟨h1, h2⟩ := bD k
   exact ⟨v, _, _, _, _, C, h1, h2⟩
theorem WRnd.fr {id : Pos} {d : Option Pos} {sl : T D} {K : X -> Prop} (h : RndOk P id ds ob nx none v ob' nx none) (hid : id.nat < nx.nat) (hle : T.le ob obR) (hk : KpO nx.nat ob) (hd : KpL nx.nat ds) (hb : Beside nx ob' obR obR') (hx : nx.nat <= nx2.nat) (hl : LgLe lg lg') (hw : ∀ id : Pos, id.nat < nx.nat -> wrtn lg' id) (k : lK sl obR' nx2 lg' d K v) : WRnd P id ds d ⟨sl, obR, nx2, lg⟩ K := by
 have C := h.frame hid hle hk hd hb hx hl hw
 cases d with
 | none => exact ⟨v, _, _, _, _, C, rfl, k⟩
 | some d =>
   obtain ⟨h1, h2⟩ := bD k
   exact ⟨v, _, _, _, _, C, h1, h2⟩
end
def oP (id j : Pos) : Option Pos := bif Pos.beq j id then some .h else none
theorem kB (id : Pos) : oP id id = some .h := by unfold oP; rw [Pos.beq_self]; rfl
theorem oW {id j : Pos} (h : j ≠ id) : oP id j = none := by
 unfold oP
 cases e : Pos.beq j id with
 | false => rfl
 | true => exact absurd (Pos.beq_iff.1 e) h
theorem Ren.one (id : Pos) : Ren (.o .h) (fun _ => id) (oP id) := by
 refine ⟨fun j hj => ?_, fun i j h => ?_⟩
 ·have : j = .h := by
   cases j with
   | h => rfl
   | o p => have := Pos.nat_pos p; have hj : 2 * p.nat < 2 := hj; omega
   | i p => have := Pos.nat_pos p; have hj : 2 * p.nat + 1 < 2 := hj; omega
  subst this
  exact kB id
 ·by_cases e : i = id
  ·subst e
   rw [kB] at h
   cases h
   exact ⟨by decide, rfl⟩
  ·rw [oW e] at h; cases h
theorem CallOk.one {P : Program} {f : FuncId} {n st z cur : Nat} {cs : List Cell} {v : D} {ob' : T C} (h : CallOk P f [.sl .h 0 n st z] (.n .e (some (.cells false cs cur)) .e) (.o .h) none v ob' (.o .h) none) (hob' : ob'.get .h = some (.cells false cs cur)) (hp : ∀ c ∈ cs, Pu c.d) (hv : Pu v)
 {id : Pos} {ob : T C} {nx : Pos} {lg lg' : Option (T Bool)} (hid : ob.get id = some (.cells false cs cur)) (hlt : id.nat < nx.nat) (hl : LgLe lg lg') (hw : wrtn lg' id) : CallOk P f [.sl id 0 n st z] ob nx lg v ob nx lg' := by
 refine ⟨hl, Nat.le_refl _, Keeps.refl _ _, fun so hs γ args w gh hargs hob hnx => ?_⟩
 have hso : so id := hs id hw.tchd
 have h1 : Pos.h.nat < (Pos.o .h).nat := by decide
 have R := Ren.one id
 have hargs' : DVL (iQ (.o .h) (fun _ => id) γ) w [.sl .h 0 n st z] args.toList := by
  unfold DVL at hargs ⊢
  obtain ⟨u, r, e1, e2, e3⟩ := hargs
  refine ⟨u, r, e1, ?_, e3⟩
  unfold DV at e2 ⊢
  rw [eZ h1]
  exact e2
 obtain ⟨c1, c2⟩ := h.ok (fun _ => True) (fun _ _ => trivial) (iQ (.o .h) (fun _ => id) γ) args w (tN R gh) hargs' (fun j c _ hc => by
  cases j with
  | h =>
    rw [T.get_h] at hc
    cases hc
    obtain ⟨q0, q1, q2⟩ := hob id _ hso hid
    refine ⟨q0, (eZ h1).trans q1, fun s hs => ?_⟩
    obtain ⟨vs, e, fr, q3, q4, q5⟩ := q2 s hs
    refine ⟨vs, e, fr, q3, q4, fun p c hpc hh hd => ?_⟩
    obtain ⟨u, q6, q7, q8⟩ := q5 p c hpc hh hd
    exact ⟨u, q6, DV.pu (mK (nx := .o .h) (ρ := fun _ => id) (γ := γ)) _ _ (hp c (List.mem_of_getElem? hpc)) q7, q8⟩
  | o p => rw [T.get_o, T.get_e] at hc; cases hc
  | i p => rw [T.get_i, T.get_e] at hc; cases hc) (fun j _ hj => jY (Nat.not_lt.2 hj))
 refine ⟨c1, fun ro m Q hQ => c2 ro m Q fun γ' w' u gh' F hu ho hn => ?_⟩
 have hWid : ∀ i j, oP id i = some j -> wrtn lg' i := fun i j h => by
  by_cases e : i = id
  ·subst e; exact hw
  ·rw [oW e] at h; cases h
 refine hQ (sU (oP id) γ γ') w' u (Dg R gh gh' F) (BJ R hWid F) (DV.pu (Dh (τ := oP id) (γ := γ) (γ' := γ')) _ _ hv hu) (fun i c hi hc => ?_) (fun i hi hle => ?_)
 ·by_cases e : i = id
  ·subst e
   rw [hid] at hc
   cases hc
   obtain ⟨q0, q1, q2⟩ := ho .h _ trivial hob'
   refine ⟨q0, (dX (kB i)).trans q1, fun s hs => ?_⟩
   obtain ⟨vs, e, fr, q3, q4, q5⟩ := q2 s hs
   rw [gT (kB i)]
   refine ⟨vs, e, fr, q3, q4, fun p c hpc hh hd => ?_⟩
   obtain ⟨u, q6, q7, q8⟩ := q5 p c hpc hh hd
   exact ⟨u, q6, DV.pu (Dh (τ := oP i) (γ := γ) (γ' := γ')) _ _ (hp c (List.mem_of_getElem? hpc)) q7, q8⟩
  ·exact wC R gh F (oW e) (hob i c hi hc)
 ·have e : i ≠ id := fun e => by subst e; omega
  rw [dC (oW e)]
  exact hnx i hi hle
theorem WCall.one {P : Program} {f : Nat} {n st z cur : Nat} {cs : List Cell} {v : D} {ob' : T C} (h : CallOk P f [.sl .h 0 n st z] (.n .e (some (.cells false cs cur)) .e) (.o .h) none v ob' (.o .h) none) (hob' : ob'.get .h = some (.cells false cs cur)) (hp : ∀ c ∈ cs, Pu c.d) (hv : Pu v)
 {id : Pos} {ob : T C} {nx : Pos} {lg lg' : Option (T Bool)} {sl : T D} {d : Option Pos} {K : X -> Prop} (hid : ob.get id = some (.cells false cs cur)) (hlt : id.nat < nx.nat) (hl : LgLe lg lg') (hw : wrtn lg' id) (k : lK sl ob nx lg' d K v) : WCall P f [.sl id 0 n st z] d ⟨sl, ob, nx, lg⟩ K := by
 have C := h.one hob' hp hv hid hlt hl hw
 cases d with
 | none => exact ⟨v, _, _, _, _, C, rfl, k⟩
 | some d =>
   obtain ⟨h1, h2⟩ := bD k
   exact ⟨v, _, _, _, _, C, h1, h2⟩
open Go.RowKit (Below Grown)
section
variable {γ : Gh} {w : World} {id : Pos}
end
open Go.RowKit (Below Grown)
structure RnF (P : Program) (nt : Nat) (x0 : X) (rc : RC) (y : X) (K : Ex -> X -> Prop) : Prop where
 ok : x0.lg = none -> y.lg = none -> x0.nx.nat <= y.nx.nat -> ∀ c : Code, bB P nt c = rc -> ∃ e Z, Z.lg = none /\ x0.nx.nat <= Z.nx.nat /\ K e Z /\
  ∀ (ro : Option Nat) (γ : Gh) (a : Act) (w : World), a.tmps.size = nt -> G ro γ a w -> Rep P (eK fun _ => True) γ a w x0 -> ∀ (γ1 : Gh) (a1 : Act) (w1 : World), CSt ro none γ a w γ1 a1 w1 -> Rep P (eK fun _ => True) γ1 a1 w1 y ->
    ∀ (n : Nat) (Q : Exit -> Act -> World -> Prop), (∀ γ' a' w', CSt ro none γ a w γ' a' w' -> Rep P (eK fun _ => True) γ' a' w' Z -> Q e.to a' w') -> c.wpIn (FW ro) n P Q a1 w1
section
variable {P : Program} {nt : Nat} {x0 : X} {rc : RC} {y : X} {K : Ex -> X -> Prop}
theorem Rep.all {so : Pos -> Prop} {γ : Gh} {a : Act} {w : World} {x : X} (h : ∀ id, so id) (R : Rep P (eK so) γ a w x) : Rep P (eK fun _ => True) γ a w x :=
 ⟨fun s d _ hd => R.sl s d trivial hd, fun id c _ hc => R.ob id c (h id) hc, fun id _ hle => R.nx id (h id) hle, R.gl⟩
theorem Rep.any {so : Pos -> Prop} {γ : Gh} {a : Act} {w : World} {x : X} (R : Rep P (eK fun _ => True) γ a w x) : Rep P (eK so) γ a w x :=
 ⟨fun s d _ hd => R.sl s d trivial hd, fun id c _ hc => R.ob id c trivial hc, fun id _ hle => R.nx id trivial hle, R.gl⟩
theorem Rn.far {x : X} (hl : x.lg = none) (h : RnF P nt x rc x K) : Rn P nt rc x K :=
 ⟨fun c hc => by
  obtain ⟨e, Z, h1, h2, h3, h4⟩ := h.ok hl hl (Nat.le_refl _) c hc
  refine ⟨e, Z, ⟨by rw [hl, h1]; exact LgLe.refl _, h2, fun id hn => by rw [h1] at hn; exact absurd trivial hn, fun so hs ro γ a w hn g R n Q hQ => ?_⟩, h3⟩
  have hall : ∀ id, so id := fun id => hs id (by rw [h1]; trivial)
  refine h4 ro γ a w hn g (R.all hall) γ a w (CSt.refl g) (R.all hall) n Q fun γ' a' w' s' R' => hQ γ' a' w' (by rw [h1]; exact s') R'.any⟩
structure FarK (P : Program) (nt : Nat) (x0 : X) (b : RC) (K : Ex -> X -> Prop) (e : Ex) (z : X) : Prop where
 ok : e = .normal /\ z.lg = none /\ x0.nx.nat <= z.nx.nat /\ RnF P nt x0 b z K
theorem RnF.seq {a b : RC} (h : Rn P nt a y (FarK P nt x0 b K)) : RnF P nt x0 (.seq a b) y K :=
 ⟨fun hl0 hly hx c hc => by
  obtain ⟨c1, k1, k2, k3⟩ := Di (P := P) (nt := nt) c
  have hc1 := k1.trans hc
  refine other hc1 k2 (fun e => by cases e) (fun _ e => by cases e) (fun j _ e => by cases e) (fun i ops _ e => by cases e) (fun i ops _ e => by cases e) (fun a' b' e e' => ?_) (fun _ _ _ _ _ _ e => by cases e) (fun _ _ _ e => by cases e) (fun _ _ e => by cases e) (fun _ _ _ _ _ _ _ _ _ e => by cases e) (fun e => by cases e)
  simp only [RC.seq.injEq] at e'
  obtain ⟨e1, e2⟩ := e'
  subst e
  obtain ⟨e, z, h1, h2⟩ := h.ok a' e1.symm
  obtain ⟨rfl, hlz, hxz, h3⟩ := h2.ok
  obtain ⟨e, Z, j1, j2, j3, j4⟩ := h3.ok hl0 hlz hxz b' e2.symm
  refine ⟨e, Z, j1, j2, j3, fun ro γ A w hn g R γ1 a1 w1 s1 R1 n Q hQ => ?_⟩
  obtain ⟨Q', q1, q2⟩ := k3 (F := FW ro) (n := n) (Q := Q) (a := a1) (w := w1)
  refine q2 (wpIn_seq (h1.ok (fun _ => True) (fun _ _ => trivial) ro γ1 a1 w1 (s1.sz.trans hn) s1.g R1 n _ fun γ2 a2 w2 s2 R2 => ?_))
  have s2 : CSt ro none γ1 a1 w1 γ2 a2 w2 := by rw [hlz] at s2; exact s2
  exact j4 ro γ A w hn g R γ2 a2 w2 (CSt.trans (LgLe.refl _) s1 s2) R2 n Q' fun γ' a' w' s' R' => q1 _ _ _ (hQ γ' a' w' s' R')⟩
theorem RnF.turn {z' : X} {B : Pos -> Prop} (S : ShrB B y z') (hx : ∀ id : Pos, id.nat < x0.nx.nat -> B id) (hz : ∀ id : Pos, B id -> id.nat < z'.nx.nat) (hn0 : x0.nx.nat <= z'.nx.nat) (h : Rn P nt rc z' K) : RnF P nt x0 rc y K :=
 ⟨fun hl0 hly hxy c hc => by
  obtain ⟨e, Z, h1, h2⟩ := h.ok c hc
  have hZ : Z.lg = none := h1.lg.none.1 S.l'
  refine ⟨e, Z, hZ, Nat.le_trans hn0 h1.nx, h2, fun ro γ A w hn g R γ1 a1 w1 s1 R1 n Q hQ => ?_⟩
  obtain ⟨γ2, s2, R2⟩ := pL S hx hz (fun _ => trivial) R (by rw [hly]; exact s1) R1
  have s2 : CSt ro none γ A w γ2 a1 w1 := by rw [S.l'] at s2; exact s2
  refine h1.ok (fun _ => True) (fun _ _ => trivial) ro γ2 a1 w1 (s2.sz.trans hn) s2.g R2 n Q fun γ3 a3 w3 s3 R3 => ?_
  have s3 : CSt ro none γ2 a1 w1 γ3 a3 w3 := by rw [hZ] at s3; exact s3
  exact hQ γ3 a3 w3 (CSt.trans (LgLe.refl _) s2 s3) R3⟩
end
open Go.RowKit (Below Grown)
structure Fill (nx a : Pos) (ob1 ob2 : T C) : Prop where
 ok : ∃ (r q : Pos) (ro : Bool) (n st z k m gB cur : Nat) (ds : List D), r.nat + 1 = nx.nat /\ q.nat < r.nat /\ ob1.get r = some .hole /\ aO ds /\
  ob1.get a = some (.cells false (ds.map fun d => Cell.o d gB) cur) /\ ob1.get q = some (.cells ro [.o (.sl a 0 n st z) k] m) /\
  ∀ i ci, ob2.get i = some ci -> (i = r /\ ci = .cells false (ds.map fun d => Cell.o d gB) cur) \/ (i = q /\ ci = .cells ro [.o (.sl r 0 n st z) k] m) \/ (i.nat < r.nat /\ ob1.get i = some ci /\ KpC r.nat ci)
open Classical in
theorem RndOk.fill {P : Program} {id : Pos} {ds : List D} {ob ob1 ob2 : T C} {nx nx1 a : Pos} {v : D} (h : RndOk P id ds ob nx none v ob1 nx1 none) (hv : Pu v) (ha : nx.nat <= a.nat) (F : Fill nx a ob1 ob2) : RndOk P id ds ob nx none v ob2 nx none := by
 obtain ⟨r, q, ro, n, st, z, k, m, gB, cu, dz, hr, hq, hole, hpu, hn, hqq, hrest⟩ := F.ok
 refine ⟨LgLe.refl _, Nat.le_refl _, fun id hn => absurd trivial hn, fun so hs γ args w gh hargs hob hnx hcur => ?_⟩
 have hall : ∀ id, so id := fun id => hs id trivial
 obtain ⟨fn, tmps, asg, body, h1, h2⟩ := h.ok so (fun id _ => hall id) γ args w gh hargs hob hnx hcur
 refine ⟨fn, tmps, asg, body, h1, fun ro' n' R hR => h2 ro' n' R fun γ1 w1 u g1 F1 hu ho hz => ?_⟩
 have hnr : a ≠ r := fun e => by rw [e] at ha; omega
 have hr1 : γ1.cur r = 0 := ho r _ (hall r) hole
 have hr0 : γ.cur r = 0 := by have := F1.up.cur r; omega
 have hnx0 : γ.cur a = 0 := hnx a (hall a) ha
 let γ2 : Gh := ⟨fun i => if i = r then γ1.cur a else if i.nat < r.nat then γ1.cur i else 0, fun i => if i = r then γ1.β a else γ1.β i, γ1.im⟩
 have cr : γ2.cur r = γ1.cur a := by show (if _ then _ else _) = _; rw [if_pos rfl]
 have br : γ2.β r = γ1.β a := by show (if _ then _ else _) = _; rw [if_pos rfl]
 have cl : ∀ i : Pos, i.nat < r.nat -> γ2.cur i = γ1.cur i := fun i hi => by
  have hne : i ≠ r := fun e => by rw [e] at hi; omega
  show (if _ then _ else _) = _; rw [if_neg hne, if_pos hi]
 have bl : ∀ i : Pos, i ≠ r -> γ2.β i = γ1.β i := fun i hi => by show (if _ then _ else _) = _; rw [if_neg hi]
 have c0 : ∀ i : Pos, i ≠ r -> ¬ i.nat < r.nat -> γ2.cur i = 0 := fun i h1 h2 => by show (if _ then _ else _) = _; rw [if_neg h1, if_neg h2]
 have lt2 : ∀ i s, s < γ2.cur i -> ∃ j, s < γ1.cur j /\ γ2.β i = γ1.β j /\ ((i = r /\ j = a) \/ (i.nat < r.nat /\ j = i)) := fun i s hi => by
  by_cases e : i = r
  ·subst e; rw [cr] at hi; exact ⟨a, hi, br, .inl ⟨rfl, rfl⟩⟩
  ·by_cases hl : i.nat < r.nat
   ·rw [cl i hl] at hi; exact ⟨i, hi, bl i e, .inr ⟨hl, rfl⟩⟩
   ·rw [c0 i e hl] at hi; exact absurd hi (Nat.not_lt_zero _)
 have kp : ∀ id : Pos, id.nat < r.nat -> γ2.cur id = γ1.cur id /\ γ2.β id = γ1.β id := fun i hi => ⟨cl i hi, bl i fun e => by rw [e] at hi; omega⟩
 have G2 : GH γ2 w1 := by
  refine ⟨fun i s hi => ?_, fun i s i' s' hi hi' he => ?_, fun b hb => ⟨(g1.im b hb).1, fun i s hi => ?_⟩, g1.gl.im fun _ h => h⟩
  ·obtain ⟨j, k1, k2, _⟩ := lt2 i s hi
   rw [k2]; exact g1.ob j s k1
  ·obtain ⟨j, k1, k2, k3⟩ := lt2 i s hi
   obtain ⟨j', k1', k2', k3'⟩ := lt2 i' s' hi'
   rw [k2, k2'] at he ⊢
   obtain ⟨e1, e2⟩ := g1.inj j s j' s' k1 k1' he
   refine ⟨?_, e2⟩
   rcases k3 with ⟨a1, a2⟩ | ⟨a1, a2⟩ <;> rcases k3' with ⟨b1, b2⟩ | ⟨b1, b2⟩
   ·rw [a1, b1]
   ·exfalso; rw [a2, b2] at e1; rw [<- e1] at b1; omega
   ·exfalso; rw [a2, b2] at e1; rw [e1] at a1; omega
   ·rw [<- a2, <- b2, e1]
  ·obtain ⟨j, k1, k2, _⟩ := lt2 i s hi
   rw [k2]; exact (g1.im b hb).2 j s k1
 have F2 : Fr (wrtn none) γ γ2 w w1 := by
  refine ⟨⟨fun i => ?_, fun i s hi => ?_, F1.up.sh, F1.up.im⟩, fun id hn => absurd trivial hn, F1.blk, fun i s h1 h2 => ?_, F1.imn, F1.lp, F1.size, F1.os, F1.tape, F1.output, F1.fz⟩
  ·by_cases e : i = r
   ·subst e; rw [hr0]; exact Nat.zero_le _
   ·by_cases hl : i.nat < r.nat
    ·rw [cl i hl]; exact F1.up.cur i
    ·have : r.nat ≠ i.nat := fun h => e (Pos.inj h.symm)
     rw [hnx i (hall i) (by omega)]; exact Nat.zero_le _
  ·have e : i ≠ r := fun e => by subst e; rw [hr0] at hi; exact absurd hi (Nat.not_lt_zero _)
   rw [bl i e]; exact F1.up.β i s hi
  ·obtain ⟨j, k1, k2, k3⟩ := lt2 i s h2
   rw [k2]
   rcases k3 with ⟨a1, a2⟩ | ⟨a1, a2⟩
   ·subst a2
    rcases F1.new j s (by rw [hnx0]; exact Nat.zero_le _) k1 with h | ⟨s0, h, _⟩
    ·exact .inl h
    ·rw [hnx0] at h; exact absurd h (Nat.not_lt_zero _)
   ·subst a2; exact F1.new j s h1 k1
 refine hR γ2 w1 u G2 F2 (DV.pu (γ := γ1) (γ' := γ2) (fun _ h => h) _ _ hv hu) (fun i ci _ hci => ?_) (fun i _ hi => c0 i (fun e => by rw [e] at hi; omega) (by omega))
 rcases hrest i ci hci with ⟨rfl, rfl⟩ | ⟨rfl, rfl⟩ | ⟨hi, hg, hk⟩
 ·obtain ⟨q0, q1, q2⟩ := ho a _ (hall a) hn
  refine ⟨q0, cr.trans q1, fun s hs => ?_⟩
  obtain ⟨vs, e, fr, q3, q4, q5⟩ := q2 s hs
  rw [br]
  refine ⟨vs, e, fr, q3, q4, fun p c hpc hh hd => ?_⟩
  obtain ⟨u', q6, q7, q8⟩ := q5 p c hpc hh hd
  refine ⟨u', q6, DV.pu (γ := γ1) (γ' := γ2) (fun _ h => h) _ _ ?_ q7, q8⟩
  obtain ⟨d, hd1, rfl⟩ := List.mem_map.1 (List.mem_of_getElem? hpc)
  exact aV.1 hpu d hd1
 ·obtain ⟨q0, q1, q2⟩ := ho i _ (hall i) hqq
  obtain ⟨e1, e2⟩ := kp i hq
  refine ⟨q0, e1.trans q1, fun s hs => ?_⟩
  obtain ⟨vs, e, fr, q3, q4, q5⟩ := q2 s hs
  rw [e2]
  refine ⟨vs, e, fr, q3, q4, fun p c hpc hh hd => ?_⟩
  cases p with
  | zero =>
    have hc : c = Cell.o (.sl r 0 n st z) k := by simpa using hpc.symm
    subst hc
    obtain ⟨u', q6, q7, q8⟩ := q5 0 (Cell.o (.sl a 0 n st z) k) rfl hh hd
    refine ⟨u', q6, ?_, q8⟩
    have q7 : DV γ1 w1 (.sl a 0 n st z) u' := q7
    show DV γ2 w1 (.sl r 0 n st z) u'
    unfold DV at q7 ⊢
    rw [cr, br]
    exact q7
  | succ p => simp at hpc
 ·exact HoldsO.kp (γ := γ1) (γ' := γ2) (fun _ h => h) kp hi hk (ho i ci (hall i) hg)
theorem CallOk.hole {P : Program} {f : Nat} {ds : List D} {ob ob' : T C} {nx nx' nx2 r : Pos} {lg lg' : Option (T Bool)} {v : D} (h : CallOk P f ds (T.set r .hole ob) nx' lg v ob' nx2 lg') (h1 : nx.nat <= r.nat) (h2 : nx.nat <= nx'.nat) (hw : wrtn lg' r) : CallOk P f ds ob nx lg v ob' nx2 lg' :=
 ⟨h.hl, Nat.le_trans h2 h.hx, fun id hn => by
  by_cases e : id = r
  ·subst e; exact absurd hw hn
  ·have := h.hk id hn
   rw [T.get_set_ne e] at this
   exact this, fun so hs γ args w gh ha ho hn => h.ok so hs γ args w gh ha (fun id c hid hc => by
  by_cases e : id = r
  ·subst e
   rw [T.get_set_same] at hc
   cases hc
   exact hn id hid h1
  ·rw [T.get_set_ne e] at hc
   exact ho id c hid hc) fun id hid hle => hn id hid (Nat.le_trans h2 hle)⟩
end Go.Ev
end
