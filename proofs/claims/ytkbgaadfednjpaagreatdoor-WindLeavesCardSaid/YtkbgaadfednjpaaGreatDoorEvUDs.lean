import Derived.Test.YtkbgaadfednjpaaGreatDoorEvUV
import Derived.RowKit3
set_option linter.all false
set_option maxHeartbeats 8000000
noncomputable section
namespace Go.Ev
open Go.RowKit (Below)
theorem nN (m i : Nat) : cU m i = m.testBit i := by
 unfold cU
 rw [Nat.testBit_eq_decide_div_mod_eq]
 have h1 : Nat.land (Nat.shiftRight m i) 1 = m / 2 ^ i % 2 := by
  show (m >>> i) &&& 1 = _
  rw [Nat.and_one_is_mod, Nat.shiftRight_eq_div_pow]
 rw [h1]
 by_cases h : m / 2 ^ i % 2 = 1
 ·rw [h]; rfl
 ·rw [decide_eq_false h]
  cases hb : Nat.beq (m / 2 ^ i % 2) 1 with
  | false => rfl
  | true => exact absurd (Nat.eq_of_beq_eq_true hb) h
theorem iL {M : List Nat} {i : Nat} : ∀ {es : List Edge}, (fV M es).testBit i = true -> ∃ e ∈ es, Region.binds .any e = true /\ (i = e.on \/ (cK M e.on).testBit i = true)
 | [], h => by simp [fV] at h
 | e :: es, h => by
   simp only [fV] at h
   cases hb : Region.binds .any e with
   | false =>
     rw [hb] at h
     obtain ⟨e', h1, h2⟩ := iL (es := es) h
     exact ⟨e', by simp [h1], h2⟩
   | true =>
     rw [hb] at h
     simp only [cond_true] at h
     have h : ((1 <<< e.on ||| cK M e.on) ||| fV M es).testBit i = true := h
     rw [Nat.testBit_or, Nat.testBit_or, Nat.one_shiftLeft, Nat.testBit_two_pow] at h
     simp only [Bool.or_eq_true, decide_eq_true_eq] at h
     rcases h with (h | h) | h
     ·exact ⟨e, by simp, hb, .inl h.symm⟩
     ·exact ⟨e, by simp, hb, .inr h⟩
     ·obtain ⟨e', h1, h2⟩ := iL (es := es) h
      exact ⟨e', by simp [h1], h2⟩
theorem lG {j : Nat} : ∀ {es : List Edge}, kJ j es = true -> ∀ e ∈ es, Region.binds .any e = true -> e.on < j
 | [], _, e, he, _ => by cases he
 | e0 :: es, h, e, he, hb => by
   simp only [kJ] at h
   cases h1 : Region.binds .any e0 with
   | false =>
     rw [h1] at h
     rcases List.mem_cons.1 he with rfl | he
     ·rw [h1] at hb; cases hb
     ·exact lG h e he hb
   | true =>
     cases h2 : Nat.blt e0.on j with
     | false => rw [h1, h2] at h; cases h
     | true =>
       rw [h1, h2] at h
       rcases List.mem_cons.1 he with rfl | he
       ·exact Nat.le_of_ble_eq_true h2
       ·exact lG h e he hb
theorem qY {M : List Nat} : ∀ {os : List Oper} {j : Nat}, dW M j os = true -> ∀ k o, os[k]? = some o -> (∀ e ∈ o.after.toList, Region.binds .any e = true -> e.on < j + k) /\ cK M (j + k) = fV M o.after.toList
 | [], _, _, k, o, ho => by simp at ho
 | o0 :: os, j, h, k, o, ho => by
   simp only [dW] at h
   cases h1 : kJ j o0.after.toList with
   | false => rw [h1] at h; cases h
   | true =>
     cases h2 : Nat.beq (cK M j) (fV M o0.after.toList) with
     | false => rw [h1, h2] at h; cases h
     | true =>
       rw [h1, h2] at h
       cases k with
       | zero =>
         simp at ho
         subst ho
         exact ⟨lG h1, Nat.eq_of_beq_eq_true h2⟩
       | succ k =>
         have := qY (j := Nat.succ j) h k o (by simpa using ho)
         rw [show j + (k + 1) = Nat.succ j + k by omega]
         exact this
theorem nM {M : List Nat} {x : Fp} {i : Nat} : ∀ {l : List Fp} {j : Nat}, eG M x i j l = true -> ∀ k y, l[k]? = some y -> cU (cK M (j + k)) i = true \/ lB x y = true
 | [], _, _, k, y, hy => by simp at hy
 | t :: l, j, h, k, y, hy => by
   simp only [eG] at h
   have main : eG M x i (Nat.succ j) l = true /\ (cU (cK M j) i = true \/ lB x t = true) := by
    cases h1 : cU (cK M j) i with
    | true => rw [h1] at h; exact ⟨h, .inl rfl⟩
    | false => cases h2 : lB x t with
      | true => rw [h1, h2] at h; exact ⟨h, .inr rfl⟩
      | false => rw [h1, h2] at h; cases h
   cases k with
   | zero => simp at hy; subst hy; exact main.2
   | succ k =>
     have := nM main.1 k y (by simpa using hy)
     rw [show j + (k + 1) = Nat.succ j + k by omega]
     exact this
theorem rY {M : List Nat} : ∀ {l : List Fp} {i : Nat}, dU M i l = true -> ∀ a b x y, a < b -> l[a]? = some x -> l[b]? = some y -> cU (cK M (i + b)) (i + a) = true \/ lB x y = true
 | [], _, _, a, b, x, y, _, hx, _ => by simp at hx
 | t :: l, i, h, a, b, x, y, hab, hx, hy => by
   simp only [dU] at h
   cases h1 : eG M t i (Nat.succ i) l with
   | false => rw [h1] at h; cases h
   | true =>
     rw [h1] at h
     cases b with
     | zero => omega
     | succ b =>
       cases a with
       | zero =>
         simp at hx
         subst hx
         have := nM h1 b y (by simpa using hy)
         rw [show i + (b + 1) = Nat.succ i + b by omega]
         exact this
       | succ a =>
         have := rY (i := Nat.succ i) h a b x y (by omega) (by simpa using hx) (by simpa using hy)
         rw [show i + (b + 1) = Nat.succ i + b by omega, show i + (a + 1) = Nat.succ i + a by omega]
         exact this
theorem qK {d : Nat} : ∀ {l : List Nat}, yE d l = true ↔ d ∈ l
 | [] => by simp [yE]
 | e :: l => by
   simp only [yE, List.mem_cons]
   cases h : Nat.beq d e with
   | true => simp [Nat.eq_of_beq_eq_true h]
   | false =>
     have : d ≠ e := fun e => by subst e; simp at h
     simp [this, qK (l := l)]
theorem sP {a b : Fp} (h : lB a b = true) : (∀ d, b.2 = some d -> d ∉ a.1) /\ ∀ d, a.2 = some d -> d ∉ b.1 := by
 unfold lB at h
 cases h1 : memO b.2 a.1 with
 | true => rw [h1] at h; cases h
 | false => cases h2 : memO a.2 b.1 with
   | true => rw [h1, h2] at h; cases h
   | false =>
     refine ⟨fun d hd hm => ?_, fun d hd hm => ?_⟩
     ·rw [hd] at h1
      have h1 : yE d a.1 = false := h1
      rw [qK.2 hm] at h1; cases h1
     ·rw [hd] at h2
      have h2 : yE d b.1 = false := h2
      rw [qK.2 hm] at h2; cases h2
theorem yN {P : Program} {nt : Nat} {ops : Array Oper} : ∀ {l : List Oper} {k : Nat} {o : Oper}, l[k]? = some o -> (Dd (bS P nt ops l) l)[k]? = some (BZ o.dst ((eS P nt ops o).ss.map Pos.ix), o.dst)
 | [], k, o, h => by simp at h
 | o0 :: l, k, o, h => by
   cases k with
   | zero => simp at h; subst h; rfl
   | succ k =>
     have := yN (P := P) (nt := nt) (ops := ops) (l := l) (k := k) (o := o) (by simpa using h)
     simpa [Dd, bS] using this
section
variable {P : Program} {nt : Nat} {ops : Array Oper} {M : List Nat} {xs : Nat -> X} {Ls : Nat -> T Bool}
def wr (ops : Array Oper) (Ls : Nat -> T Bool) (i : Nat) : Pos ⊕ Pos -> Prop
 | .inl s => (ops[i]?).bind (·.dst) = some s.ix
 | .inr id => (Ls i).get id = some true
def tc (P : Program) (nt : Nat) (ops : Array Oper) (Ls : Nat -> T Bool) (i : Nat) : Pos ⊕ Pos -> Prop
 | .inl s => s ∈ dT P nt ops i \/ (ops[i]?).bind (·.dst) = some s.ix
 | .inr id => ∃ b, (Ls i).get id = some b
def oK (ops : Array Oper) (L : Nat -> Bool) : Prop := ∀ (j : Nat) o, ops[j]? = some o -> L j = true -> ∀ e ∈ o.after, Region.binds .any e = true -> L e.on = true
def zV (ops : Array Oper) (Ls : Nat -> T Bool) (S : Nat -> Bool) (r : Pos ⊕ Pos) (t : Nat) : Prop := ∀ j, j < ops.size -> wr ops Ls j r -> (j < t ↔ S j = true)
structure Fine (P : Program) (nt : Nat) (ops : Array Oper) (M : List Nat) (Ls : Nat -> T Bool) : Prop where
 conf : ∀ i j, i < ops.size -> j < ops.size -> i ≠ j -> ∀ r, tc P nt ops Ls i r -> wr ops Ls j r -> cU (cK M j) i = true \/ cU (cK M i) j = true
 lt : ∀ i j, j < ops.size -> cU (cK M j) i = true -> i < j
 closed : ∀ L, oK ops L -> ∀ i j, j < ops.size -> cU (cK M j) i = true -> L j = true -> L i = true
 edge : ∀ j o, ops[j]? = some o -> ∀ e ∈ o.after, Region.binds .any e = true -> e.on < j
theorem Jj {i : Nat} {r : Pos ⊕ Pos} (h : wr ops Ls i r) : tc P nt ops Ls i r := by
 cases r with
 | inl s => exact .inr h
 | inr id => exact ⟨true, h⟩
theorem Fine.of (hm : dW M 0 ops.toList = true) (hp : dU M 0 (Dd (bS P nt ops ops.toList) ops.toList) = true) (hl : ∀ i j, i < j -> j < ops.size -> cU (cK M j) i = true \/ fI (Ls i) (Ls j) = true) : Fine P nt ops M Ls := by
 have at' : ∀ j (hj : j < ops.size), (∀ e ∈ (ops[j]).after, Region.binds .any e = true -> e.on < j) /\ cK M j = fV M (ops[j]).after.toList := by
  intro j hj
  have := qY hm j ops[j] (by simp [hj])
  rw [Nat.zero_add] at this
  exact ⟨fun e he hb => this.1 e (by simpa using he) hb, this.2⟩
 have hclosed : ∀ L, oK ops L -> ∀ i j, j < ops.size -> cU (cK M j) i = true -> L j = true -> L i = true := by
  intro L hL i j
  induction j using Nat.strongRecOn generalizing i with
  | _ j ih =>
    intro hj hb hLj
    obtain ⟨h1, h2⟩ := at' j hj
    rw [nN, h2] at hb
    obtain ⟨e, he, hbe, h3⟩ := iL hb
    have he : e ∈ (ops[j]).after := by simpa using he
    have hLe : L e.on = true := hL j ops[j] (Array.getElem?_eq_getElem hj) hLj e he hbe
    rcases h3 with rfl | h3
    ·exact hLe
    ·have hlt := h1 e he hbe
     exact ih e.on hlt i (by omega) (by rw [nN]; exact h3) hLe
 have hlt : ∀ i j, j < ops.size -> cU (cK M j) i = true -> i < j := by
  intro i j
  induction j using Nat.strongRecOn generalizing i with
  | _ j ih =>
    intro hj hb
    obtain ⟨h1, h2⟩ := at' j hj
    rw [nN, h2] at hb
    obtain ⟨e, he, hbe, h3⟩ := iL hb
    have hlt := h1 e (by simpa using he) hbe
    rcases h3 with rfl | h3
    ·exact hlt
    ·have := ih e.on hlt i (by omega) (by rw [nN]; exact h3)
     omega
 refine ⟨?_, hlt, hclosed, fun j o ho e he hb => ?_⟩
 ·have key : ∀ i j, i < j -> j < ops.size -> ∀ r, (tc P nt ops Ls i r -> wr ops Ls j r -> cU (cK M j) i = true) /\ (tc P nt ops Ls j r -> wr ops Ls i r -> cU (cK M j) i = true) := by
   intro i j hij hj r
   have hi : i < ops.size := by omega
   cases r with
   | inl s =>
     have f1 := yN (P := P) (nt := nt) (ops := ops) (l := ops.toList) (k := i) (o := ops[i]) (by simp [hi])
     have f2 := yN (P := P) (nt := nt) (ops := ops) (l := ops.toList) (k := j) (o := ops[j]) (by simp [hj])
     have hh := rY hp i j _ _ hij f1 f2
     rw [Nat.zero_add, Nat.zero_add] at hh
     have names : ∀ k (hk : k < ops.size), tc P nt ops Ls k (.inl s) -> s.ix ∈ BZ (ops[k]).dst ((eS P nt ops ops[k]).ss.map Pos.ix) := by
      intro k hk h
      have hk' : ops[k]? = some ops[k] := Array.getElem?_eq_getElem hk
      rcases h with h | h
      ·unfold dT at h
       rw [hk'] at h
       have : s.ix ∈ (eS P nt ops ops[k]).ss.map Pos.ix := List.mem_map.2 ⟨s, h, rfl⟩
       cases (ops[k]).dst with
       | none => exact this
       | some d => exact List.mem_cons_of_mem _ this
      ·rw [hk'] at h
       have h : (ops[k]).dst = some s.ix := h
       rw [h]; exact List.mem_cons_self
     have dst : ∀ k (hk : k < ops.size), wr ops Ls k (.inl s) -> (ops[k]).dst = some s.ix := by
      intro k hk h
      have hk' : ops[k]? = some ops[k] := Array.getElem?_eq_getElem hk
      have h : (ops[k]?).bind (·.dst) = some s.ix := h
      rw [hk'] at h
      exact h
     refine ⟨fun h1 h2 => ?_, fun h1 h2 => ?_⟩
     ·rcases hh with hh | hh
      ·exact hh
      ·exact absurd (names i hi h1) ((sP hh).1 _ (dst j hj h2))
     ·rcases hh with hh | hh
      ·exact hh
      ·exact absurd (names j hj h1) ((sP hh).2 _ (dst i hi h2))
   | inr id =>
     refine ⟨fun ⟨b, h1⟩ h2 => ?_, fun ⟨b, h1⟩ h2 => ?_⟩
     ·rcases hl i j hij hj with hh | hh
      ·exact hh
      ·have := (mX hh id h1 h2).2
       cases this
     ·rcases hl i j hij hj with hh | hh
      ·exact hh
      ·have := (mX hh id h2 h1).1
       cases this
  intro i j hi hj hne r h1 h2
  rcases Nat.lt_or_gt_of_ne hne with h | h
  ·exact .inl ((key i j h hj r).1 h1 h2)
  ·exact .inr ((key j i h hi r).2 h1 h2)
 ·have hj : j < ops.size := (Array.getElem?_eq_some_iff.1 ho).1
  rw [Array.getElem?_eq_getElem hj] at ho
  cases ho
  exact (at' j hj).1 e he hb
structure Inv (P : Program) (ops : Array Oper) (xs : Nat -> X) (Ls : Nat -> T Bool) (so : Pos -> Prop) (S : Nat -> Bool) (γ : Gh) (a : Act) (w : World) : Prop where
 sl : ∀ p t, t <= ops.size -> zV ops Ls S (.inl p) t -> ∀ d, (xs t).sl.get p = some d -> p.ix < a.tmps.size /\ DV γ w d (a.tmps.getD p.ix undef)
 ob : ∀ id t, so id -> t <= ops.size -> zV ops Ls S (.inr id) t -> (∀ c, (xs t).ob.get id = some c -> HoldsO P γ w id c) /\ ((xs t).nx.nat <= id.nat -> γ.cur id = 0)
theorem Fine.cur (F : Fine P nt ops M Ls) {S : Nat -> Bool} (hC : oK ops S) {i : Nat} (hi : i < ops.size) (hn : S i = false) (hpre : ∀ o, ops[i]? = some o -> ∀ e ∈ o.after, Region.binds .any e = true -> S e.on = true) {r : Pos ⊕ Pos} (h : tc P nt ops Ls i r) : zV ops Ls S r i := by
 have hC' : oK ops (fun j => S j || j == i) := by
  intro j o ho hj e he hb
  by_cases hji : j = i
  ·subst hji; simp [hpre o ho e he hb]
  ·have : S j = true := by simpa [hji] using hj
   simp [hC j o ho this e he hb]
 intro j hj hw
 by_cases hji : j = i
 ·subst hji
  simp [hn]
 ·constructor
  ·intro hlt
   rcases F.conf i j hi hj (fun e => hji e.symm) r h hw with hb | hb
   ·have := F.lt i j hj hb; omega
   ·have := F.closed _ hC' j i hi hb (by simp)
    simpa [hji] using this
  ·intro hS
   rcases F.conf i j hi hj (fun e => hji e.symm) r h hw with hb | hb
   ·have := F.closed _ hC i j hj hb hS
    rw [hn] at this; cases this
   ·exact F.lt j i hi hb
theorem Inv.step {so : Pos -> Prop} {S S' : Nat -> Bool} (F : Fine P nt ops M Ls) (hok : ∀ i, i < ops.size -> IOk P nt ops i (dT P nt ops i) ((xs i).at (some .e)) ((xs (i + 1)).at (some (Ls i))))
 (hC : oK ops S) {i : Nat} (hi : i < ops.size) (hn : S i = false) (hpre : ∀ o, ops[i]? = some o -> ∀ e ∈ o.after, Region.binds .any e = true -> S e.on = true) (hS' : ∀ j, S' j = (S j || j == i))
 {ro : Option Nat} {γ γ' : Gh} {a a' : Act} {w w' : World} (g : G ro γ a w) (I : Inv P ops xs Ls so S γ a w) (st : St ro (some (Ls i)) ((ops[i]?).bind (·.dst)) γ a w γ' a' w')
 (R : Rep P ⟨fun p => zV ops Ls S (.inl p) i, fun id => so id /\ zV ops Ls S (.inr id) i⟩ γ' a' w' ((xs (i + 1)).at (some (Ls i)))) : Inv P ops xs Ls so S' γ' a' w' := by
 -- behind the operation, up to t, no other writer
 have later : ∀ (r : Pos ⊕ Pos) t, wr ops Ls i r -> t <= ops.size -> zV ops Ls S' r t -> zV ops Ls S r i /\ i < t /\ ∀ j, i < j -> j < t -> ¬ wr ops Ls j r := by
  intro r t hw ht hcur
  have hc := F.cur hC hi hn hpre (Jj hw)
  refine ⟨hc, (hcur i hi hw).2 (by rw [hS']; simp), fun j hij hjt hwj => ?_⟩
  have h1 := (hcur j (by omega) hwj).1 hjt
  rw [hS'] at h1
  have hne : (j == i) = false := by simp; omega
  rw [hne, Bool.or_false] at h1
  have := (hc j (by omega) hwj).2 h1
  omega
 have before : ∀ (r : Pos ⊕ Pos) t, ¬ wr ops Ls i r -> zV ops Ls S' r t -> zV ops Ls S r t := by
  intro r t hw hcur j hj hwj
  have hne : j ≠ i := fun e => hw (e ▸ hwj)
  have := hcur j hj hwj
  rw [hS'] at this
  have hne : (j == i) = false := by simpa using hne
  rwa [hne, Bool.or_false] at this
 refine ⟨fun p t ht hcur d hd => ?_, fun id t hid ht hcur => ?_⟩
 ·by_cases hw : wr ops Ls i (.inl p)
  ·obtain ⟨hc, hit, hnone⟩ := later _ t hw ht hcur
   have same : ∀ k, i + 1 + k <= t -> (xs (i + 1 + k)).sl.get p = (xs (i + 1)).sl.get p := by
    intro k
    induction k with
    | zero => intro _; rfl
    | succ k ih =>
      intro hk
      rw [<- ih (by omega)]
      exact (hok (i + 1 + k) (by omega)).slf p (fun e => hnone (i + 1 + k) (by omega) (by omega) e)
   have := same (t - (i + 1)) (by omega)
   rw [show i + 1 + (t - (i + 1)) = t by omega] at this
   rw [this] at hd
   exact R.sl p d hc hd
  ·obtain ⟨h1, h2⟩ := I.sl p t ht (before _ t hw hcur) d hd
   refine ⟨by rw [st.sz]; exact h1, ?_⟩
   rw [st.sl p.ix hw]
   exact DV.mono st.fr.up _ _ h2
 ·by_cases hw : wr ops Ls i (.inr id)
  ·obtain ⟨hc, hit, hnone⟩ := later _ t hw ht hcur
   have same : ∀ k, i + 1 + k <= t -> (xs (i + 1 + k)).ob.get id = (xs (i + 1)).ob.get id /\ (xs (i + 1)).nx.nat <= (xs (i + 1 + k)).nx.nat := by
    intro k
    induction k with
    | zero => intro _; exact ⟨rfl, Nat.le_refl _⟩
    | succ k ih =>
      intro hk
      obtain ⟨h1, h2⟩ := ih (by omega)
      refine ⟨?_, Nat.le_trans h2 (hok (i + 1 + k) (by omega)).nx⟩
      rw [<- h1]
      exact (hok (i + 1 + k) (by omega)).obf id (fun e => hnone (i + 1 + k) (by omega) (by omega) e)
   obtain ⟨h1, h2⟩ := same (t - (i + 1)) (by omega)
   rw [show i + 1 + (t - (i + 1)) = t by omega] at h1 h2
   refine ⟨fun c hcc => R.ob id c ⟨hid, hc⟩ (h1.symm.trans hcc), fun hle => R.nx id ⟨hid, hc⟩ (Nat.le_trans h2 hle)⟩
  ·obtain ⟨h1, h2⟩ := I.ob id t hid ht (before _ t hw hcur)
   refine ⟨fun c hcc => st.fr.keep g hw (h1 c hcc), fun hle => ?_⟩
   rw [st.fr.cur id hw]
   exact h2 hle
theorem EN {so : Pos -> Prop} {lgZ : Option (T Bool)} (F : Fine P nt ops M Ls) (hok : ∀ i, i < ops.size -> IOk P nt ops i (dT P nt ops i) ((xs i).at (some .e)) ((xs (i + 1)).at (some (Ls i))))
 (ht : ∀ i, i < ops.size -> ∀ id, tchd (some (Ls i)) id -> so id) (hw : ∀ i, i < ops.size -> ∀ id, wrtn (some (Ls i)) id -> wrtn lgZ id)
 {ro : Option Nat} {n : Nat} {Q : Exit -> Act -> World -> Prop} {GK : Gh} {a0 : Act} {w0 : World} (hn0 : a0.tmps.size = nt)
 (hQ : ∀ γ a w, CSt ro lgZ GK a0 w0 γ a w -> Rep P (eH so) γ a w ((xs ops.size).at lgZ) -> Q .normal a w) :
 ∀ (fuel : Nat) (listed : Array Bool) (γ : Gh) (a : Act) (w : World), CSt ro lgZ GK a0 w0 γ a w -> listed.size = ops.size -> oK ops (fun j => listed.getD j false) ->
   Inv P ops xs Ls so (fun j => listed.getD j false) γ a w ->
   (List.range ops.size).countP (fun j => !listed.getD j false) <= fuel -> wpAnyIn (FW ro) n P .any ops Q fuel listed a w := by
 have done : ∀ (listed : Array Bool) (γ : Gh) (a : Act) (w : World), CSt ro lgZ GK a0 w0 γ a w -> listed.size = ops.size ->
  Inv P ops xs Ls so (fun j => listed.getD j false) γ a w -> Region.ready .any ops listed = [] -> Q .normal a w := by
  intro listed γ a w hS hsz hI hr
  have all : ∀ m, m <= ops.size -> ∀ j, j < m -> listed.getD j false = true := by
   intro m
   induction m with
   | zero => intro _ j hj; omega
   | succ m ih =>
     intro hm j hj
     by_cases hjm : j < m
     ·exact ih (by omega) j hjm
     ·obtain rfl : j = m := by omega
      cases hl : listed.getD j false with
      | true => rfl
      | false =>
        exfalso
        have : j ∈ Region.ready .any ops listed := by
         unfold Region.ready
         rw [List.mem_filter]
         refine ⟨by simp; omega, ?_⟩
         have hlt : j < listed.size := by omega
         have h1 : listed.getD j true = false := by
          simp [Array.getD, hlt] at hl ⊢; exact hl
         have ho : ops[j]? = some ops[j] := Array.getElem?_eq_getElem (by omega)
         rw [h1, ho]
         simp only [Bool.not_false, Bool.true_and, Option.map_some, Option.getD_some, Array.all_eq_true_iff_forall_mem, Bool.or_eq_true, Bool.not_eq_true']
         intro e he
         by_cases hb : Region.binds .any e = true
         ·exact .inr (ih (by omega) e.on (F.edge j _ ho e he hb))
         ·exact .inl (by simpa using hb)
        rw [hr] at this
        cases this
  have cur : ∀ r, zV ops Ls (fun j => listed.getD j false) r ops.size := fun r j hj _ => ⟨fun _ => all _ (Nat.le_refl _) j hj, fun _ => hj⟩
  exact hQ γ a w hS ⟨fun p d _ hd => hI.sl p _ (Nat.le_refl _) (cur _) d hd, fun id c hid hc => (hI.ob id _ hid (Nat.le_refl _) (cur _)).1 c hc, fun id hid hle => (hI.ob id _ hid (Nat.le_refl _) (cur _)).2 hle, hS.g.gl⟩
 intro fuel
 induction fuel with
 | zero =>
   intro listed γ a w hS hsz hC hI hf
   have hr : Region.ready .any ops listed = [] := by
    unfold Region.ready
    rw [List.filter_eq_nil_iff]
    intro j hj h
    have h0 := List.countP_eq_zero.1 (Nat.le_zero.1 hf) j hj
    have hlt : j < listed.size := by simp at hj; omega
    simp [Array.getD, hlt] at h0 h
    rw [h0] at h
    simp at h
   exact ⟨hr, done listed γ a w hS hsz hI hr⟩
 | succ fuel ih =>
   intro listed γ a w hS hsz hC hI hf
   refine ⟨done listed γ a w hS hsz hI, ?_⟩
   intro i hi
   unfold Region.ready at hi
   rw [List.mem_filter] at hi
   obtain ⟨hir, hi⟩ := hi
   have hilt : i < ops.size := by simpa using hir
   have hlt : i < listed.size := by omega
   have ho : ops[i]? = some ops[i] := Array.getElem?_eq_getElem hilt
   rw [ho] at hi
   simp only [Bool.and_eq_true, Bool.not_eq_true', Option.map_some, Option.getD_some, Array.all_eq_true_iff_forall_mem, Bool.or_eq_true] at hi
   obtain ⟨hi1, hi2⟩ := hi
   have hn : listed.getD i false = false := by
    simp [Array.getD, hlt] at hi1 ⊢; exact hi1
   have hpre : ∀ o, ops[i]? = some o -> ∀ e ∈ o.after, Region.binds .any e = true -> listed.getD e.on false = true := by
    intro o ho' e he hb
    rw [ho] at ho'
    cases ho'
    rcases hi2 e he with h | h
    ·rw [hb] at h; cases h
    ·exact h
   have hL' : ∀ j, (listed.setIfInBounds i true).getD j false = (listed.getD j false || j == i) := by
    intro j
    by_cases hji : j = i
    ·subst hji; simp [hlt]
    ·have : (j == i) = false := by simpa using hji
     have hne : i ≠ j := fun e => hji e.symm
     simp [this, Array.getElem?_setIfInBounds_ne hne]
   refine (hok i hilt).ok ⟨fun p => zV ops Ls (fun j => listed.getD j false) (.inl p) i, fun id => so id /\ zV ops Ls (fun j => listed.getD j false) (.inr id) i⟩
    (fun s hs => F.cur hC hilt hn hpre (.inl hs)) (fun id hid => ⟨ht i hilt id hid, F.cur hC hilt hn hpre (show tc P nt ops Ls i (.inr id) from hid)⟩) ro γ a w (hS.sz.trans hn0) hS.g
    ⟨fun p d hp hd => hI.sl p i (by omega) hp d hd, fun id c hid hc => (hI.ob id i hid.1 (by omega) hid.2).1 c hc, fun id hid hle => (hI.ob id i hid.1 (by omega) hid.2).2 hle, hS.g.gl⟩ _ _ Q ?_
   intro γ' a' w' st R
   have cst : CSt ro lgZ γ a w γ' a' w' := ⟨st.g, st.fr.mono (hw i hilt), st.sz, st.code.dn⟩
   refine ih (listed.setIfInBounds i true) γ' a' w' (CSt.trans (LgLe.refl _) hS cst) (by simpa using hsz) ?_ (Inv.step F hok hC hilt hn hpre hL' hS.g hI st R) ?_
   ·intro j o hoj hj e he hb
    have hj : (listed.getD j false || j == i) = true := by rw [<- hL']; exact hj
    show (listed.setIfInBounds i true).getD e.on false = true
    rw [hL']
    by_cases hji : j = i
    ·subst hji; simp [hpre o hoj e he hb]
    ·have : listed.getD j false = true := by simpa [hji] using hj
     simp [hC j o hoj this e he hb]
   ·have h1 : (List.range ops.size).countP (fun j => !(listed.setIfInBounds i true).getD j false) + 1 <= (List.range ops.size).countP (fun j => !listed.getD j false) := by
     have hmem : i ∈ List.range ops.size := by simpa using hilt
     generalize List.range ops.size = l at hmem
     have mono : ∀ l : List Nat, l.countP (fun j => !(listed.setIfInBounds i true).getD j false) <= l.countP (fun j => !listed.getD j false) := fun l =>
      List.countP_mono_left (fun j _ hj => by
       rw [hL'] at hj
       simp only [Bool.not_eq_true', Bool.or_eq_false_iff] at hj ⊢
       exact hj.1)
     induction l with
     | nil => cases hmem
     | cons k l ihl =>
       rw [List.countP_cons, List.countP_cons]
       rcases List.mem_cons.1 hmem with rfl | hm
       ·have e1 : (!(listed.setIfInBounds i true).getD i false) = false := by rw [hL']; simp
        have e2 : (!listed.getD i false) = true := by rw [hn]; rfl
        rw [e1, e2]
        have := mono l
        rw [if_neg (by decide), if_pos rfl]
        omega
       ·have := ihl hm
        have h3 : (if (!(listed.setIfInBounds i true).getD k false) = true then 1 else 0) <= (if (!listed.getD k false) = true then 1 else 0) := by
         rw [hL']
         cases listed.getD k false <;> cases (k == i) <;> simp
        omega
    omega
theorem zP {ro : Option Nat} {γ : Gh} {a : Act} {w : World} (g : G ro γ a w) (S : Pos -> Prop) : Fr S γ γ w { w with drawn := w.drawn + 1 } /\ G ro γ a { w with drawn := w.drawn + 1 } := by
 have F : Fr S γ γ w { w with drawn := w.drawn + 1 } := ⟨⟨fun _ => Nat.le_refl _, fun _ _ _ => rfl, fun _ _ h => h, fun _ h => ⟨h, fun _ h => h⟩⟩, fun _ _ => rfl, fun _ _ _ => rfl, fun _ _ h1 h2 => absurd h2 (by omega), fun _ h _ => h, fun _ r h => ⟨r, h⟩, Nat.le_refl _, rfl, rfl, rfl, fun _ => rfl⟩
 exact ⟨F, g.of F rfl g.ob g.inj g.im⟩
theorem XOk.drw {FP : T RF} {ex : RC -> X -> Option (Ex × X)} (hFP : FPok P FP) (IH : ∀ nt c x e Z, ex (aY P nt c) x = some (e, Z) -> XOk P nt c x e Z) {id : Nat} {x Z : X} {e : Ex} (hm : P.follows .mixedOrders = true) (hM : dW M 0 ops.toList = true) (hp : dU M 0 (Dd (bS P nt ops ops.toList) ops.toList) = true)
 (h : Cu P FP ex (bS P nt ops ops.toList) M x = some (e, Z)) : XOk P nt (.region id ops true) x e Z := by
 unfold Cu at h
 split at h
 ·rename_i y hy
  cases h
  obtain ⟨xs, Ls, R⟩ := AC (ops := ops) hFP IH (M := M) ops.toList [] rfl (fun j => by rw [List.length_nil, Nat.zero_add]) hy
  have F : Fine P nt ops M Ls := Fine.of hM hp fun i j hij hj => R.pr i j (Nat.zero_le _) hij hj
  have hok : ∀ i, i < ops.size -> IOk P nt ops i (dT P nt ops i) ((xs i).at (some .e)) ((xs (i + 1)).at (some (Ls i))) := fun i hi => R.ok i (Nat.zero_le _) hi
  obtain ⟨b1, b2, b3⟩ := R.b
  obtain ⟨e1, e2, e3⟩ := R.e
  have chain : ∀ k, k <= ops.size -> Keeps Z.lg (xs 0).ob (xs k).ob /\ (xs 0).nx.nat <= (xs k).nx.nat := by
   intro k
   induction k with
   | zero => intro _; exact ⟨Keeps.refl _ _, Nat.le_refl _⟩
   | succ k ih =>
     intro hk
     obtain ⟨h1, h2⟩ := ih (by omega)
     exact ⟨fun id hn => ((hok k (by omega)).obf id fun hw => hn (R.w k (Nat.zero_le _) (by omega) id hw)).trans (h1 id hn), Nat.le_trans h2 (hok k (by omega)).nx⟩
  obtain ⟨c1, c2⟩ := chain ops.size (Nat.le_refl _)
  rw [e2] at c1
  rw [e3] at c2
  have c1 : Keeps Z.lg x.ob Z.ob := by
   have b2 : (xs 0).ob = x.ob := b2
   rw [b2] at c1; exact c1
  have c2 : x.nx.nat <= Z.nx.nat := by
   have b3 : (xs 0).nx = x.nx := b3
   rw [b3] at c2; exact c2
  refine ⟨R.lg, c2, c1, fun so hso ro γ a w hn g Rp n Q hQ => wpIn_region_any hm ?_⟩
  obtain ⟨F0, g0⟩ := zP g (wrtn Z.lg)
  refine EN F hok (fun i hi id hid => hso id (R.t i (Nat.zero_le _) hi id hid)) (fun i hi => R.w i (Nat.zero_le _) hi) hn (fun γ' a' w' cst rep => hQ γ' a' w' cst ?_) ops.size (Array.replicate ops.size false) γ a _ ⟨g0, F0, rfl, fun r hr => .inl hr⟩ (by simp) ?_ ?_ ?_
  ·refine ⟨fun s d hs hd => rep.sl s d hs (e1.symm ▸ hd), fun id c hid hc => rep.ob id c hid (e2.symm ▸ hc), fun id hid hle => rep.nx id hid ?_, rep.gl⟩
   show (xs ops.size).nx.nat <= id.nat
   rw [e3]; exact hle
  ·intro j o ho hj e he hb
   have hjl : j < ops.size := (Array.getElem?_eq_some_iff.1 ho).1
   simp [hjl] at hj
  ·-- nothing has been: all is as at the start, up to the first writer
   have none : ∀ r t, t <= ops.size -> zV ops Ls (fun j => (Array.replicate ops.size false).getD j false) r t -> ∀ j, j < t -> ¬ wr ops Ls j r := by
    intro r t ht hcur j hj hw
    have hjl : j < ops.size := by omega
    have := (hcur j hjl hw).1 hj
    simp [hjl] at this
   refine ⟨fun p t ht hcur d hd => ?_, fun id t hid ht hcur => ?_⟩
   ·have hn' := none _ t ht hcur
    have same : ∀ k, k <= t -> (xs k).sl.get p = (xs 0).sl.get p := by
     intro k
     induction k with
     | zero => intro _; rfl
     | succ k ih => exact fun hk => ((hok k (by omega)).slf p (fun e => hn' k (by omega) e)).trans (ih (by omega))
    rw [same t (Nat.le_refl _)] at hd
    have b1 : (xs 0).sl = x.sl := b1
    rw [b1] at hd
    obtain ⟨q1, q2⟩ := Rp.sl p d trivial hd
    exact ⟨q1, DV.mono F0.up _ _ q2⟩
   ·have hn' := none _ t ht hcur
    have same : ∀ k, k <= t -> (xs k).ob.get id = (xs 0).ob.get id /\ (xs 0).nx.nat <= (xs k).nx.nat := by
     intro k
     induction k with
     | zero => intro _; exact ⟨rfl, Nat.le_refl _⟩
     | succ k ih => exact fun hk => ⟨((hok k (by omega)).obf id (fun e => hn' k (by omega) e)).trans (ih (by omega)).1, Nat.le_trans (ih (by omega)).2 (hok k (by omega)).nx⟩
    obtain ⟨s1, s2⟩ := same t (Nat.le_refl _)
    have b2 : (xs 0).ob = x.ob := b2
    have b3 : (xs 0).nx = x.nx := b3
    rw [b2] at s1
    rw [b3] at s2
    refine ⟨fun c hc => ?_, fun hle => Rp.nx id hid (Nat.le_trans s2 hle)⟩
    rw [s1] at hc
    exact HoldsO.mono F0.up rfl (fun _ _ => rfl) (Rp.ob id c hid hc)
  ·exact Nat.le_trans List.countP_le_length (by simp)
 ·cases h
end
open Go.RowKit (Below)
section
variable {P : Program} {FP : T RF} {ex : RC -> X -> Option (Ex × X)} {nt : Nat}
theorem fU {x : X} {e : Ex} {Z : X} (h : wX P FP ex (.reg [.u .bad]) x = some (e, Z)) : False := by
 cases x; cases h
theorem XRounds.of {c : Code} {x : X} {e : Ex} {Z : X} (IH : ∀ nt c x e Z, ex (aY P nt c) x = some (e, Z) -> XOk P nt c x e Z) (IHl : ∀ nt c x e Z, ex (.loop (aY P nt c)) x = some (e, Z) -> XRounds P nt c x e Z)
 (h : wX P FP ex (.loop (aY P nt c)) x = some (e, Z)) : XRounds P nt c x e Z := by
 have h : xW ex (aY P nt c) x = some (e, Z) := h
 unfold xW at h
 split at h
 ·rename_i y hy
  exact .more (IH _ _ _ _ _ hy) (IHl _ _ _ _ _ h)
 ·rename_i hne
  refine .last (IH _ _ _ _ _ h) fun he => ?_
  subst he
  exact hne _ h
theorem wI (hFP : FPok P FP) (IH : ∀ nt c x e Z, ex (aY P nt c) x = some (e, Z) -> XOk P nt c x e Z) (IHl : ∀ nt c x e Z, ex (.loop (aY P nt c)) x = some (e, Z) -> XRounds P nt c x e Z) :
 ∀ (c : Code) {x : X} {e : Ex} {Z : X}, wX P FP ex (aY P nt c) x = some (e, Z) -> XOk P nt c x e Z
 | .skip, x, e, Z, h => by cases h; exact XOk.skip
 | .label _, x, e, Z, h => by cases h; exact XOk.label
 | .ret, x, e, Z, h => by cases h; exact XOk.ret
 | .exit id, x, e, Z, h => by cases h; exact XOk.exit
 | .region id ops draw, x, e, Z, h => by
   cases draw with
   | false => exact XOk.reg hFP IH h
   | true =>
     have h : wX P FP ex (vW P nt ops (dY [] ops.toList)) x = some (e, Z) := h
     unfold vW at h
     cases h1 : P.follows .mixedOrders with
     | false => rw [h1] at h; exact (fU h).elim
     | true =>
       cases h2 : dW (dY [] ops.toList) 0 ops.toList with
       | false => rw [h1, h2] at h; exact (fU h).elim
       | true =>
         cases h3 : dU (dY [] ops.toList) 0 (Dd (bS P nt ops ops.toList) ops.toList) with
         | false => rw [h1, h2, h3] at h; exact (fU h).elim
         | true =>
           rw [h1, h2, h3] at h
           exact XOk.drw hFP IH h1 h2 h3 h
 | .seq a b, x, e, Z, h => by
   have h : EC ex (aY P nt a) (aY P nt b) x = some (e, Z) := h
   unfold EC at h
   split at h
   ·rename_i y hy
    exact (IH _ _ _ _ _ hy).seq (IH _ _ _ _ _ h)
   ·rename_i hne
    refine (IH _ _ _ _ _ h).seqEnd fun he => ?_
    subst he
    exact hne _ h
 | .cond c a b, x, e, Z, h => by
   simp only [aY] at h
   split at h
   ·rename_i r hr
    obtain ⟨sl, ob, nx, lg⟩ := x
    have h : yR ex r (aY P nt a) (aY P nt b) ⟨sl, ob, nx, lg⟩ = some (e, Z) := h
    simp only [yR] at h
    split at h
    ·rename_i hv
     exact XOk.cond hr hv (t := true) (IH _ _ _ _ _ h)
    ·rename_i hv
     exact XOk.cond hr hv (t := false) (IH _ _ _ _ _ h)
    ·cases h
   ·exact (fU h).elim
 | .block id c, x, e, Z, h => by
   replace h : Db ex id (aY P nt c) x = some (e, Z) := h
   unfold Db at h
   split at h
   ·rename_i i y hy
    cases hb : Nat.beq i id with
    | true =>
      rw [hb] at h
      have he := Nat.eq_of_beq_eq_true hb
      cases h
      subst he
      exact (IH _ _ _ _ _ hy).block
    | false =>
      rw [hb] at h
      cases h
      exact (IH _ _ _ _ _ hy).blockThrough fun he => by
       cases he
       simp at hb
   ·rename_i hne
    exact (IH _ _ _ _ _ h).blockThrough fun he => by
     subst he
     exact hne _ _ h
 | .loop c, x, e, Z, h => XOk.loop (XRounds.of IH IHl h)
 | .scope c, x, e, Z, h => XOk.scope (wI hFP IH IHl c h)
 | .rangeFunc f ps a b, x, e, Z, h => by
   simp only [aY] at h
   split at h
   ·rename_i r ps' hr hps
    exact XOk.rf hFP IH hr hps h
   ·exact (fU h).elim
 | .goto _, x, e, Z, h => (fU h).elim
 | .refuse _, x, e, Z, h => (fU h).elim
theorem pQ (hFP : FPok P FP) : ∀ n, (∀ nt c x e Z, exec P FP n (aY P nt c) x = some (e, Z) -> XOk P nt c x e Z) /\ (∀ nt c x e Z, exec P FP n (.loop (aY P nt c)) x = some (e, Z) -> XRounds P nt c x e Z)
 | 0 => ⟨(fun _ _ _ _ _ h => by cases h), (fun _ _ _ _ _ h => by cases h)⟩
 | n + 1 => by
   obtain ⟨h1, h2⟩ := pQ hFP n
   exact ⟨fun nt c x e Z h => wI hFP h1 h2 c h, fun nt c x e Z h => XRounds.of (FP := FP) h1 h2 h⟩
end
open Go.RowKit (Below Grown)
theorem Fr.grown {S : Pos -> Prop} {γ γ' : Gh} {w w' : World} (F : Fr S γ γ' w w') (h0 : ∀ id, γ.cur id = 0) : Grown w w' := by
 have hb : ∀ b, b < w.heap.size -> w'.heap[b]? = w.heap[b]? := fun b hb => F.blk b hb fun id st _ hst => by rw [h0] at hst; omega
 refine ⟨⟨F.os, F.output, fun i hi => ?_⟩, F.fz, F.size⟩
 rw [hb i hi]
 cases w.heap[i]? with
 | none => trivial
 | some o => cases o <;> first | exact ⟨rfl, rfl, rfl, fun _ _ => rfl⟩ | exact .inr ⟨rfl, rfl⟩ | rfl
def GK : Gh := ⟨fun _ => 0, fun _ _ => (0, 0), fun b => ∃ r, LR b = some r⟩
def LRok (w : World) : Prop := ∀ g r, LR g = some r -> ∃ vs e fr, w.heap[g]? = some (.cells vs e fr) /\ r.length <= vs.size /\ (∀ γ' w', DVL γ' w' r (vs.toList.take r.length)) /\ ∀ u ∈ vs.toList.take r.length, u.oneCell' = true
theorem OX {w : World} (hL : LRok w) : GH GK w := ⟨fun _ st h => absurd h (Nat.not_lt_zero st), fun _ st _ _ h => absurd h (Nat.not_lt_zero st), fun b ⟨r, h⟩ => ⟨let ⟨vs, e, fr, h1, _⟩ := hL b r h; ⟨vs, e, fr, h1⟩, fun _ st h => absurd h (Nat.not_lt_zero st)⟩, fun g r h => ⟨⟨r, h⟩, hL g r h⟩⟩
theorem GLok.lr {γ : Gh} {w : World} (h : GLok γ w) : LRok w := fun g r e => (h g r e).2
section
variable {P : Program} {FP : T RF}
def mG (P : Program) (FP : T RF) (n : Nat) (f : Pos) : Bool :=
 match rO FP (exec P FP n) f [] .e .h none (fun v ob nx lg => some ⟨T.set .h v .e, ob, nx, lg⟩) with
 | some y => match y.sl.get .h with
   | some (.b b) => b
   | _ => false
 | none => false
theorem oI {f : Nat} {ob' : T C} {nx' : Pos} {lg' : Option (T Bool)} (C : CallOk P f [] .e .h none (.b true) ob' nx' lg') (w : World) (hL : LRok w) : (∀ w, (callFunc f #[]).run P w = .ok (.enter f #[]) w) /\
 ∀ (ro : Option Nat) (m : Nat) (R : Ending -> World -> Prop), (∀ γ' w', Fr (fun _ => True) GK γ' w w' -> R (.returned (.bool true)) w') -> CallsIn (FW ro) m P f #[] w R := by
 obtain ⟨c1, c2⟩ := C.ok (fun _ => True) (fun _ _ => trivial) GK #[] w (OX hL) DVL.nil (fun id c _ hc => by rw [T.get_e] at hc; cases hc) (fun _ _ _ => rfl)
 refine ⟨c1, fun ro m R hR => c2 ro m R fun γ' w' u _ F hu _ _ => ?_⟩
 obtain rfl := pL hu
 exact hR γ' w' (F.mono fun _ _ => trivial)
theorem DE {f : Nat} {ob' : T C} {nx' : Pos} {lg' : Option (T Bool)} (C : CallOk P f [] .e .h none (.b true) ob' nx' lg') (w : World) (hL : LRok w) : Calls P f #[] w fun e w' => e = .returned (.bool true) /\ Grown w w' :=
 (callsIn_wide (n := 0)).1 ((oI C w hL).2 none 0 _ fun _ _ F => ⟨rfl, F.grown (fun _ => rfl)⟩)
theorem Bk (hFP : FPok P FP) {n : Nat} {f : Pos} (h : mG P FP n f = true) (w : World) (hL : LRok w) : (∀ w, (callFunc f.ix #[]).run P w = .ok (.enter f.ix #[]) w) /\
 ∀ (ro : Option Nat) (m : Nat) (R : Ending -> World -> Prop), (∀ γ' w', Fr (fun _ => True) GK γ' w w' -> R (.returned (.bool true)) w') -> CallsIn (FW ro) m P f.ix #[] w R := by
 unfold mG at h
 split at h
 ·rename_i y hy
  obtain ⟨v, ob', nx', lg', h1, C⟩ := gY hFP (pQ hFP n).1 hy
  cases h1
  have hv : v = .b true := by
   have h : (match (T.set .h v .e).get .h with
    | some (.b b) => b
    | _ => false) = true := h
   rw [T.get_set_same] at h
   split at h
   ·rename_i b hb
    cases hb
    rename_i hbt
    rw [hbt]
   ·cases h
  subst hv
  exact oI C w hL
 ·cases h
theorem closed_call (hFP : FPok P FP) {n : Nat} {f : Pos} (h : mG P FP n f = true) (ob : T C) (nx : Pos) (lg : Option (T Bool)) : CallOk P f.ix [] ob nx lg (.b true) ob nx lg := by
 refine ⟨LgLe.refl _, Nat.le_refl _, Keeps.refl _ _, fun so _ γ args w gh hargs hob hnx => ?_⟩
 have hargs : args = #[] := by
  have := (aK.1 hargs).1
  simp at this
  exact Array.eq_empty_of_size_eq_zero this.symm
 subst hargs
 obtain ⟨c1, c2⟩ := Bk hFP h w gh.gl.lr
 refine ⟨c1, fun ro m R hR => c2 ro m R fun γ' w' F => ?_⟩
 have hb : ∀ b, b < w.heap.size -> w'.heap[b]? = w.heap[b]? := fun b hb => F.blk b hb fun id st _ hst => absurd hst (Nat.not_lt_zero st)
 have U : Up γ γ w w' := ⟨fun _ => Nat.le_refl _, fun _ _ _ => rfl, F.up.3, fun b hm => ⟨hm, fun o ho => by rw [hb b (Array.getElem?_eq_some_iff.1 ho).1]; exact ho⟩⟩
 refine hR γ w' _ ⟨fun id st hst => Nat.lt_of_lt_of_le (gh.ob id st hst) F.size, gh.inj, fun b hm => ⟨let ⟨⟨vs, e, fr, k1⟩, _⟩ := gh.im b hm; ⟨vs, e, fr, (U.im b hm).2 _ k1⟩, (gh.im b hm).2⟩, gh.gl.up U⟩ ⟨U, fun _ _ => rfl, fun b h1 _ => hb b h1, fun _ _ h1 h2 => absurd h2 (by omega), fun _ h _ => h, F.lp, F.size, F.os, F.tape, F.output, F.fz⟩ (dD _)
  (fun id c hid hc => HoldsO.mono U rfl (fun st hst => hb _ (gh.ob id st hst)) (hob id c hid hc)) hnx
end
def TabOk (P : Program) (g : Pos -> Pos) (t : T RF) : Prop := ∀ p rf, t.get p = some rf -> qJ P (g p).ix rf
theorem TabOk.e {P : Program} {g : Pos -> Pos} : TabOk P g .e := fun p rf h => by rw [T.get_e] at h; cases h
theorem TabOk.n {P : Program} {g : Pos -> Pos} {l r : T RF} {v : Option RF} (hv : ∀ rf, v = some rf -> qJ P (g .h).ix rf) (hl : TabOk P (fun p => g (.o p)) l) (hr : TabOk P (fun p => g (.i p)) r) : TabOk P g (.n l v r)
 | .h, rf, h => hv rf h
 | .o p, rf, h => hl p rf h
 | .i p, rf, h => hr p rf h
theorem TabOk.no {P : Program} {k : Nat} : ∀ rf, (none : Option RF) = some rf -> qJ P k rf := fun _ h => by cases h
theorem TabOk.at {P : Program} {k : Nat} : ∀ rf, aA P k = some rf -> qJ P k rf := fun rf h => by
 obtain ⟨fn, c, rs, _, _, _, _, rfl⟩ := rB h
 exact ⟨fun _ => h, (fun v hv => by cases hv), (fun m hm => by cases hm)⟩
def kU (l : List (List D × D)) (rf : Option RF) : Option RF := match rf with
 | some ⟨nt, body, res, none, []⟩ => some ⟨nt, body, res, none, l⟩
 | _ => none
def MemsOk (P : Program) (k : Nat) : List (List D × D) -> Prop
 | [] => True
 | m :: l => MemOk P k m.1 m.2 /\ MemsOk P k l
theorem MemsOk.mem {P : Program} {k : Nat} : ∀ {l : List (List D × D)}, MemsOk P k l -> ∀ m ∈ l, MemOk P k m.1 m.2
 | [], _, m, hm => by cases hm
 | a :: l, h, m, hm => by
   rcases List.mem_cons.1 hm with e | hm
   ·rw [e]; exact h.1
   ·exact MemsOk.mem h.2 m hm
theorem TabOk.me {P : Program} {k : Nat} {l : List (List D × D)} (hl : MemsOk P k l) : ∀ rf, kU l (aA P k) = some rf -> qJ P k rf := fun rf h => by
 cases hc : aA P k with
 | none => rw [hc] at h; cases h
 | some rf0 =>
   obtain ⟨fn, c, rs, _, _, _, _, rfl⟩ := rB hc
   rw [hc] at h
   cases h
   exact ⟨fun _ => hc, (fun v hv => by cases hv), hl.mem⟩
def Pg : RF := ⟨0, .skip, [], some (.b true), []⟩
theorem TabOk.kn {P : Program} {FP : T RF} (hFP : FPok P FP) {n : Nat} {f : Pos} (h : mG P FP n f = true) : ∀ rf, some Pg = some rf -> qJ P f.ix rf := fun rf he => by
 cases he
 exact ⟨(fun h => by cases h), (fun v hv => by cases hv; exact closed_call hFP h), (fun m hm => by cases hm)⟩
theorem FPok.of {P : Program} {t : T RF} (h : TabOk P (fun p => p) t) : FPok P t := h
open Go.RowKit (Below Grown)
def Code.pre : Nat -> Code -> Code
 | k + 1, .seq a b => .seq a (Code.pre k b)
 | _, _ => .skip
def fZ (s : Pos) (b : Bool) (nx : Pos) : X := ⟨T.set s (.b b) .e, .e, nx, none⟩
section
variable {P : Program} {FP : T RF} {nt : Nat}
end
open Go.RowKit (Below Grown)
section
variable {P : Program} {FP : T RF} {nt : Nat}
end
open Go.RowKit (Below Grown)
section
variable {P : Program}
def TrueCall (P : Program) (f : Nat) : Prop := ∃ (ob : T C) (nx : Pos) (lg : Option (T Bool)), CallOk P f [] .e .h none (.b true) ob nx lg
theorem TrueCall.calls {f : Nat} (h : TrueCall P f) (w : World) (hL : LRok w) : Calls P f #[] w fun e w' => e = .returned (.bool true) /\ Grown w w' :=
 let ⟨_, _, _, C⟩ := h
 DE C w hL
theorem TrueCall.any {f : Nat} (h : TrueCall P f) (ob : T C) (nx : Pos) (lg : Option (T Bool)) : CallOk P f [] ob nx lg (.b true) ob nx lg := by
 obtain ⟨_, _, _, C⟩ := h
 refine ⟨LgLe.refl _, Nat.le_refl _, Keeps.refl _ _, fun so _ γ args w gh hargs hob hnx => ?_⟩
 have hargs : args = #[] := by
  have := (aK.1 hargs).1
  simp at this
  exact Array.eq_empty_of_size_eq_zero this.symm
 subst hargs
 obtain ⟨c1, c2⟩ := oI C w gh.gl.lr
 refine ⟨c1, fun ro m R hR => c2 ro m R fun γ' w' F => ?_⟩
 have hb : ∀ b, b < w.heap.size -> w'.heap[b]? = w.heap[b]? := fun b hb => F.blk b hb fun id st _ hst => absurd hst (Nat.not_lt_zero st)
 have U : Up γ γ w w' := ⟨fun _ => Nat.le_refl _, fun _ _ _ => rfl, F.up.3, fun b hm => ⟨hm, fun o ho => by rw [hb b (Array.getElem?_eq_some_iff.1 ho).1]; exact ho⟩⟩
 refine hR γ w' _ ⟨fun id st hst => Nat.lt_of_lt_of_le (gh.ob id st hst) F.size, gh.inj, fun b hm => ⟨let ⟨⟨vs, e, fr, k1⟩, _⟩ := gh.im b hm; ⟨vs, e, fr, (U.im b hm).2 _ k1⟩, (gh.im b hm).2⟩, gh.gl.up U⟩ ⟨U, fun _ _ => rfl, fun b h1 _ => hb b h1, fun _ _ h1 h2 => absurd h2 (by omega), fun _ h _ => h, F.lp, F.size, F.os, F.tape, F.output, F.fz⟩ (dD _)
  (fun id c hid hc => HoldsO.mono U rfl (fun st hst => hb _ (gh.ob id st hst)) (hob id c hid hc)) hnx
end
open Go.RowKit (Below Grown)
mutual
def Pu : D -> Prop
 | .pt _ _ _ => False
 | .sl _ _ _ _ _ => False
 | .mp _ => False
 | .yl _ => False
 | .ag cs => aN cs
 | .tp cs => aN cs
 | .fn _ x y => aN x /\ aN y
 | .ifc _ d => Pu d
 | .lst _ es => cG es
 | .pl r _ => aN r
 | .any => True
 | .b _ => True
 | .i _ _ => True
 | .s _ => True
 | .np => True
 | .nf => True
 | .ni => True
 | .nm => True
 | .ns => True
 | .em => True
def aN : List D -> Prop
 | [] => True
 | d :: ds => Pu d /\ aN ds
def cG : List (List D) -> Prop
 | [] => True
 | r :: es => aN r /\ cG es
end
theorem aS : ∀ {ds : List D}, aN ds ↔ ∀ d ∈ ds, Pu d
 | [] => by simp [aN]
 | d :: ds => by simp [aN, aS]
theorem qA : ∀ {es : List (List D)}, cG es ↔ ∀ r ∈ es, aN r
 | [] => by simp [cG]
 | d :: ds => by simp [cG, qA]
section
variable {γ γ' : Gh} {w : World}
mutual
theorem DV.pu (h : ∀ b, γ.im b -> γ'.im b) : ∀ (d : D) (v : Value), Pu d -> DV γ w d v -> DV γ' w d v
 | .any, _, _, H => by unfold DV at *; exact H
 | .b _, _, _, H => by unfold DV at *; exact H
 | .i _ _, _, _, H => by unfold DV at *; exact H
 | .s _, _, _, H => by unfold DV at *; exact H
 | .np, _, _, H => by unfold DV at *; exact H
 | .nf, _, _, H => by unfold DV at *; exact H
 | .ni, _, _, H => by unfold DV at *; exact H
 | .nm, _, _, H => by unfold DV at *; exact H
 | .ns, _, _, H => by unfold DV at *; exact H
 | .em, _, _, H => by unfold DV at *; exact H
 | .pt _ _ _, _, p, _ => by unfold Pu at p; exact p.elim
 | .sl _ _ _ _ _, _, p, _ => by unfold Pu at p; exact p.elim
 | .mp _, _, p, _ => by unfold Pu at p; exact p.elim
 | .yl _, _, p, _ => by unfold Pu at p; exact p.elim
 | .ag cs, _, p, H => by
   unfold Pu at p
   unfold DV at *
   obtain ⟨vs, h1, h2, h3⟩ := H
   exact ⟨vs, h1, DVL.pu h cs _ p h2, h3⟩
 | .tp cs, _, p, H => by
   unfold Pu at p
   unfold DV at *
   obtain ⟨vs, h1, h2⟩ := H
   exact ⟨vs, h1, DVL.pu h cs _ p h2⟩
 | .fn _ x y, _, p, H => by
   unfold Pu at p
   unfold DV at *
   obtain ⟨vx, vy, h1, h2, h3⟩ := H
   exact ⟨vx, vy, h1, DVL.pu h x _ p.1 h2, DVL.pu h y _ p.2 h3⟩
 | .ifc _ d, _, p, H => by
   unfold Pu at p
   unfold DV at *
   obtain ⟨u, h1, h2⟩ := H
   exact ⟨u, h1, DV.pu h d u p h2⟩
 | .lst z es, _, p, H => by
   unfold Pu at p
   unfold DV at *
   obtain ⟨q, cap, h1, h2, h3, h4⟩ := H
   refine ⟨q, cap, h1, h2, h3, ?_⟩
   rcases h4 with h4 | ⟨b, o, vs, e, fr, k1, k2, k3, k4, k5, k6⟩
   ·exact .inl h4
   ·exact .inr ⟨b, o, vs, e, fr, h b k1, k2, k3, k4, DVE.pu h z es _ p k5, k6⟩
 | .pl ds _, _, p, H => by
   unfold Pu at p
   unfold DV at *
   obtain ⟨b, o, vs, e, fr, k1, k2, k3, k4, k5, k6⟩ := H
   exact ⟨b, o, vs, e, fr, h b k1, k2, k3, k4, DVL.pu h ds _ p k5, k6⟩
theorem DVE.pu (h : ∀ b, γ.im b -> γ'.im b) (z : Nat) : ∀ (es : List (List D)) (vs : List Value), cG es -> DVE γ w z es vs -> DVE γ' w z es vs
 | [], _, _, _ => by unfold DVE; trivial
 | r :: es, _, p, H => by
   unfold cG at p
   unfold DVE at *
   exact ⟨H.1, DVL.pu h r _ p.1 H.2.1, DVE.pu h z es _ p.2 H.2.2⟩
theorem DVL.pu (h : ∀ b, γ.im b -> γ'.im b) : ∀ (ds : List D) (vs : List Value), aN ds -> DVL γ w ds vs -> DVL γ' w ds vs
 | [], _, _, H => by unfold DVL at *; exact H
 | d :: ds, _, p, H => by
   unfold aN at p
   unfold DVL at *
   obtain ⟨v, r, h1, h2, h3⟩ := H
   exact ⟨v, r, h1, DV.pu h d v p.1 h2, DVL.pu h ds r p.2 h3⟩
end
end
def Vis (st : Nat) (l : List Cell) (ds : List D) : Prop := ∀ (k : Nat) (d : D), ds[k]? = some d -> ∃ c : Cell, l[k]? = some c /\ c.has st = true /\ c.d = d
mutual
inductive Fz (B : Pos -> Prop) (ob : T C) : D -> D -> Prop where
 | pu {d : D} (h : Pu d) : Fz B ob d d
 | any {d : D} : Fz B ob d .any
 | ns {z : Nat} : Fz B ob .ns (.lst z [])
 | em {z : Nat} : Fz B ob .em (.lst z [])
 | sl {id : Pos} {off len st z : Nat} {ro : Bool} {cs : List Cell} {cur : Nat} {es fs : List (List D)} (hB : ¬ B id) (h : ob.get id = some (.cells ro cs cur)) (hl : es.length = len) (hz : ∀ r ∈ es, r.length = z) (hv : Vis st (cs.drop off) es.flatten) (he : FzE B ob es fs) : Fz B ob (.sl id off len st z) (.lst z fs)
 | pt {id : Pos} {off st : Nat} {ro : Bool} {cs : List Cell} {cur : Nat} {r fs : List D} (hB : ¬ B id) (h : ob.get id = some (.cells ro cs cur)) (hp : 0 < r.length) (hv : Vis st (cs.drop off) r) (he : FzL B ob r fs) : Fz B ob (.pt id off st) (.pl fs 0)
 | ksl {id : Pos} {off len st z : Nat} (hB : B id) : Fz B ob (.sl id off len st z) (.sl id off len st z)
 | kpt {id : Pos} {off st : Nat} (hB : B id) : Fz B ob (.pt id off st) (.pt id off st)
 | kmp {id : Pos} (hB : B id) : Fz B ob (.mp id) (.mp id)
 | kyl {id : Pos} (hB : B id) : Fz B ob (.yl id) (.yl id)
 | lst {z : Nat} {es fs : List (List D)} (h : FzE B ob es fs) : Fz B ob (.lst z es) (.lst z fs)
 | pl {r fs : List D} {k : Nat} (h : FzL B ob r fs) : Fz B ob (.pl r k) (.pl fs k)
 | ag {cs ds : List D} (h : FzL B ob cs ds) : Fz B ob (.ag cs) (.ag ds)
 | tp {cs ds : List D} (h : FzL B ob cs ds) : Fz B ob (.tp cs) (.tp ds)
 | fn {f : Pos} {x y x' y' : List D} (h : FzL B ob x x') (k : FzL B ob y y') : Fz B ob (.fn f x y) (.fn f x' y')
inductive FzL (B : Pos -> Prop) (ob : T C) : List D -> List D -> Prop where
 | nil : FzL B ob [] []
 | cons {d e : D} {ds es : List D} (h : Fz B ob d e) (k : FzL B ob ds es) : FzL B ob (d :: ds) (e :: es)
inductive FzE (B : Pos -> Prop) (ob : T C) : List (List D) -> List (List D) -> Prop where
 | nil : FzE B ob [] []
 | cons {d e : List D} {ds es : List (List D)} (h : FzL B ob d e) (k : FzE B ob ds es) : FzE B ob (d :: ds) (e :: es)
end
abbrev Frz (ob : T C) : D -> D -> Prop := Fz (fun _ => False) ob
theorem FzL.length {B : Pos -> Prop} {ob : T C} : ∀ {a b : List D}, FzL B ob a b -> a.length = b.length
 | _, _, .nil => rfl
 | _, _, .cons _ k => by simp [FzL.length k]
theorem FzE.length {B : Pos -> Prop} {ob : T C} : ∀ {a b : List (List D)}, FzE B ob a b -> a.length = b.length
 | _, _, .nil => rfl
 | _, _, .cons _ k => by simp [FzE.length k]
theorem FzL.of {B : Pos -> Prop} {ob : T C} : ∀ {l : List D}, aN l -> FzL B ob l l
 | [], _ => .nil
 | d :: l, h => by
   unfold aN at h
   exact .cons (.pu h.1) (FzL.of h.2)
theorem FzE.of {B : Pos -> Prop} {ob : T C} : ∀ {es : List (List D)}, cG es -> FzE B ob es es
 | [], _ => .nil
 | r :: es, h => by
   unfold cG at h
   exact .cons (FzL.of h.1) (FzE.of h.2)
theorem jJ {γ : Gh} {w : World} {z : Nat} : ∀ {es : List (List D)} {vs : List Value}, (∀ r ∈ es, r.length = z) -> DVL γ w es.flatten (vs.take (es.length * z)) -> DVE γ w z es vs
 | [], _, _, _ => by unfold DVE; trivial
 | r :: es, vs, hz, H => by
   have hr := hz r (by simp)
   unfold DVE
   simp only [List.flatten_cons, List.length_cons] at H
   rw [Nat.add_mul, Nat.one_mul] at H
   have h1 := H.take z
   rw [List.take_append_of_le_length (by omega), List.take_of_length_le (by omega), List.take_take, Nat.min_eq_left (by omega)] at h1
   have h2 := H.drop z
   rw [List.drop_append_of_le_length (by omega), List.drop_of_length_le (by omega), List.nil_append, List.drop_take] at h2
   refine ⟨hr, h1, jJ (fun r h => hz r (by simp [h])) ?_⟩
   have e : es.length * z + z - z = es.length * z := by omega
   rw [e] at h2
   exact h2
section
variable {P : Program} {γ γ' : Gh} {w : World} {ob : T C}
theorem oR {id : Pos} {ro : Bool} {cs : List Cell} {cur st off : Nat} {ds : List D} (H : HoldsO P γ w id (.cells ro cs cur)) (hst : st < γ.cur id) (hd : (γ.β id st).2 <= off) (hv : Vis st (cs.drop off) ds) :
 ∃ vs e fr, w.heap[(γ.β id st).1]? = some (.cells vs e fr) /\ (ds ≠ [] -> off - (γ.β id st).2 + ds.length <= vs.size) /\ DVL γ w ds ((vs.toList.drop (off - (γ.β id st).2)).take ds.length) /\ ∀ u ∈ (vs.toList.drop (off - (γ.β id st).2)).take ds.length, u.oneCell' = true := by
 obtain ⟨_, h1, h2⟩ := H
 obtain ⟨vs, e, fr, h3, _, h4⟩ := h2 st (by omega)
 have key : ∀ k d, ds[k]? = some d -> ∃ u, vs[off - (γ.β id st).2 + k]? = some u /\ DV γ w d u /\ u.oneCell' = true := by
  intro k d hk
  obtain ⟨c, hc, hh, rfl⟩ := hv k d hk
  rw [List.getElem?_drop] at hc
  obtain ⟨u, h5, h6, h7⟩ := h4 (off + k) c hc hh (by omega)
  exact ⟨u, by rw [show off - (γ.β id st).2 + k = off + k - (γ.β id st).2 by omega]; exact h5, h6, h7⟩
 have hsz : ds ≠ [] -> off - (γ.β id st).2 + ds.length <= vs.size := by
  intro hne
  have hlt : ds.length - 1 < ds.length := by have := List.length_pos_iff.2 hne; omega
  obtain ⟨u, h5, _⟩ := key (ds.length - 1) _ (List.getElem?_eq_getElem hlt)
  have := (Array.getElem?_eq_some_iff.1 h5).1
  omega
 refine ⟨vs, e, fr, h3, hsz, ?_, fun u hu => ?_⟩
 ·refine aK.2 ⟨?_, fun k d v hk hv => ?_⟩
  ·by_cases hne : ds = []
   ·subst hne; simp
   ·have := hsz hne
    simp; omega
  ·obtain ⟨u, h5, h6, _⟩ := key k d hk
   have hlt := (List.getElem?_eq_some_iff.1 hk).1
   rw [List.getElem?_take_of_lt hlt, List.getElem?_drop] at hv
   have : vs[off - (γ.β id st).2 + k]? = some v := by simpa using hv
   rw [h5] at this
   cases this
   exact h6
 ·obtain ⟨k, hk⟩ := List.getElem?_of_mem hu
  have hlt : k < ds.length := by
   have := (List.getElem?_eq_some_iff.1 hk).1
   simp at this; omega
  obtain ⟨u', h5, _, h7⟩ := key k _ (List.getElem?_eq_getElem hlt)
  rw [List.getElem?_take_of_lt hlt, List.getElem?_drop] at hk
  have : vs[off - (γ.β id st).2 + k]? = some u := by simpa using hk
  rw [h5] at this
  cases this
  exact h7
theorem Fz.ok {B : Pos -> Prop} (him : ∀ b, γ.im b -> γ'.im b) (hob : ∀ id c, ob.get id = some c -> HoldsO P γ w id c) (hk : ∀ id, B id -> γ'.cur id = γ.cur id /\ γ'.β id = γ.β id) (hown : ∀ id st vs e fr, ¬ B id -> st < γ.cur id -> w.heap[(γ.β id st).1]? = some (.cells vs e fr) -> γ'.im (γ.β id st).1) {d d' : D} (h : Fz B ob d d') : ∀ v, DV γ w d v -> DV γ' w d' v := by
 refine Fz.rec (B := B) (ob := ob) (motive_1 := fun d d' _ => ∀ v, DV γ w d v -> DV γ' w d' v) (motive_2 := fun ds es _ => ∀ vs, DVL γ w ds vs -> DVL γ' w es vs) (motive_3 := fun es fs _ => ∀ vs z, DVE γ w z es vs -> DVE γ' w z fs vs)
  ?_ ?_ ?_ ?_ ?_ ?_ ?_ ?_ ?_ ?_ ?_ ?_ ?_ ?_ ?_ ?_ ?_ ?_ ?_ h
 ·exact fun hp v H => DV.pu him _ v hp H
 ·exact fun v _ => by unfold DV; trivial
 ·intro z v H
  unfold DV at *
  subst H
  exact ⟨none, 0, rfl, Nat.le_refl _, fun _ => rfl, .inl rfl⟩
 ·intro z v H
  unfold DV at *
  obtain ⟨a, rfl⟩ := H
  exact ⟨some a, 0, rfl, Nat.le_refl _, (fun h => by cases h), .inl rfl⟩
 ·intro id off len st z ro cs cur es fs hB hg hl hz hv he ih v H
  obtain ⟨e1, e2, cap, e, n, rfl, e4, e5, e6⟩ := gT H
  have hfl := he.length
  obtain ⟨vs, e', fr, k1, k2, k3, k4⟩ := oR (hob id _ hg) e1 e2 hv
  have hlen : es.flatten.length = es.length * z := by
   clear hv he ih k2 k3 k4 hfl hl
   induction es with
   | nil => simp
   | cons r es ih => simp [ih (fun r h => hz r (by simp [h])), hz r (by simp), Nat.add_mul]; omega
  have hsz : off - (γ.β id st).2 + es.length * z <= vs.size := by
   have h1 : w.shape? (γ.β id st).1 = some (e', vs.size) := bX k1
   rw [h1] at e5
   cases e5
   have : es.length * z <= cap * z := Nat.mul_le_mul_right z (by omega)
   omega
  unfold DV
  refine ⟨_, cap, by rw [<- hfl, hl], by omega, (fun h => by cases h), .inr ⟨_, _, vs, e', fr, hown id st _ _ _ hB e1 k1, k1, rfl, by rw [<- hfl]; exact hsz, ?_, ?_⟩⟩
  ·refine ih _ _ (jJ hz ?_)
   rw [<- hlen]
   exact k3
  ·rw [<- hfl, <- hlen]; exact k4
 ·intro id off st ro cs cur r fs hB hg hp hv he ih v H
  obtain ⟨e1, e2, rfl⟩ := jN H
  have hfl := he.length
  obtain ⟨vs, e', fr, k1, k2, k3, k4⟩ := oR (hob id _ hg) e1 e2 hv
  have hsz := k2 (fun e => by rw [e] at hp; simp at hp)
  unfold DV
  refine ⟨_, _, vs, e', fr, hown id st _ _ _ hB e1 k1, k1, rfl, by rw [<- hfl]; exact hsz, ?_, ?_⟩
  ·rw [<- hfl]; exact ih _ k3
  ·rw [<- hfl]; exact k4
 ·intro id off len st z hB v H
  obtain ⟨k1, k2⟩ := hk id hB
  unfold DV at H ⊢
  obtain ⟨h1, h2, cap, e, n, h3, h4⟩ := H
  rw [k1, k2]
  exact ⟨h1, h2, cap, e, n, h3, h4⟩
 ·intro id off st hB v H
  obtain ⟨k1, k2⟩ := hk id hB
  unfold DV at H ⊢
  rw [k1, k2]
  exact H
 ·intro id hB v H
  obtain ⟨k1, k2⟩ := hk id hB
  unfold DV at H ⊢
  rw [k1, k2]
  exact H
 ·intro id hB v H
  obtain ⟨k1, k2⟩ := hk id hB
  unfold DV at H ⊢
  rw [k1, k2]
  exact H
 ·intro z es fs he ih v H
  have hfl := he.length
  obtain ⟨p, cap, rfl, h2, h3, h4⟩ := nT H
  unfold DV
  refine ⟨p, cap, by rw [hfl], by rw [<- hfl]; exact h2, h3, ?_⟩
  rcases h4 with rfl | ⟨b, o, vs, e, fr, k1, k2, k3, k4, k5, k6⟩
  ·left
   exact List.length_eq_zero_iff.1 hfl.symm
  ·exact .inr ⟨b, o, vs, e, fr, him b k1, k2, k3, by rw [<- hfl]; exact k4, ih _ _ k5, by rw [<- hfl]; exact k6⟩
 ·intro r fs k he ih v H
  have hfl := he.length
  obtain ⟨b, o, vs, e, fr, k1, k2, rfl, k4, k5, k6⟩ := oS H
  unfold DV
  exact ⟨b, o, vs, e, fr, him b k1, k2, rfl, by rw [<- hfl]; exact k4, by rw [<- hfl]; exact ih _ k5, by rw [<- hfl]; exact k6⟩
 ·intro cs ds _ ih v H
  obtain ⟨vs, rfl, h2, h3⟩ := nC H
  unfold DV
  exact ⟨vs, rfl, ih _ h2, h3⟩
 ·intro cs ds _ ih v H
  obtain ⟨vs, rfl, h2⟩ := tC H
  unfold DV
  exact ⟨vs, rfl, ih _ h2⟩
 ·intro f x y x' y' _ _ ih1 ih2 v H
  obtain ⟨vx, vy, rfl, h2, h3⟩ := qV H
  unfold DV
  exact ⟨vx, vy, rfl, ih1 _ h2, ih2 _ h3⟩
 ·intro vs H
  unfold DVL at *; exact H
 ·intro d e ds es _ _ ih1 ih2 vs H
  unfold DVL at H ⊢
  obtain ⟨v, r, rfl, h2, h3⟩ := H
  exact ⟨v, r, rfl, ih1 _ h2, ih2 _ h3⟩
 ·intro vs z H
  unfold DVE; trivial
 ·intro d e ds es hd _ ih1 ih2 vs z H
  unfold DVE at H ⊢
  exact ⟨by rw [<- hd.length]; exact H.1, ih1 _ H.2.1, ih2 _ _ H.2.2⟩
theorem GLok.im {γ γ' : Gh} {w : World} (h : GLok γ w) (k : ∀ b, γ.im b -> γ'.im b) : GLok γ' w := fun g r e => ⟨k g (h g r e).1, (h g r e).2⟩
theorem CallOk.shut {f : FuncId} {ds : List D} {v v' : D} {ob' : T C} {nx' : Pos} {lg' : Option (T Bool)} (K : CallOk P f ds .e .h none v ob' nx' lg') (hp : aN ds) (hz : Frz ob' v v') (ob : T C) (nx : Pos) (lg : Option (T Bool)) : CallOk P f ds ob nx lg v' ob nx lg := by
 refine ⟨LgLe.refl _, Nat.le_refl _, Keeps.refl _ _, fun so _ γ args w gh hargs hob hnx => ?_⟩
 obtain ⟨c1, c2⟩ := K.ok (fun _ => True) (fun _ _ => trivial) ⟨fun _ => 0, fun _ _ => (0, 0), γ.im⟩ args w ⟨fun _ st h => absurd h (Nat.not_lt_zero st), fun _ st _ _ h => absurd h (Nat.not_lt_zero st), fun b hb => ⟨(gh.im b hb).1, fun _ st h => absurd h (Nat.not_lt_zero st)⟩, gh.gl.im fun _ h => h⟩
  (DVL.pu (γ := γ) (γ' := ⟨fun _ => 0, fun _ _ => (0, 0), γ.im⟩) (fun _ h => h) ds _ hp hargs) (fun id c _ hc => by rw [T.get_e] at hc; cases hc) (fun _ _ _ => rfl)
 refine ⟨c1, fun ro m R hR => c2 ro m R fun γ' w' u gh' F hu hob' _ => ?_⟩
 have hb : ∀ b, b < w.heap.size -> w'.heap[b]? = w.heap[b]? := fun b hb => F.blk b hb fun id st _ hst => absurd hst (Nat.not_lt_zero st)
 have hnew : ∀ id st, st < γ'.cur id -> w.heap.size <= (γ'.β id st).1 := fun id st hst => by
  rcases F.new id st (Nat.zero_le _) hst with h | ⟨fZ, h, _⟩
  ·exact h
  ·exact absurd h (Nat.not_lt_zero fZ)
 let γ2 : Gh := ⟨γ.cur, γ.β, fun b => γ'.im b \/ ((∃ id st, st < γ'.cur id /\ (γ'.β id st).1 = b) /\ ∃ vs e fr, w'.heap[b]? = some (.cells vs e fr))⟩
 have U : Up γ γ2 w w' := ⟨fun _ => Nat.le_refl _, fun _ _ _ => rfl, F.up.3, fun b hm => ⟨.inl (F.up.im b hm).1, (F.up.im b hm).2⟩⟩
 refine hR γ2 w' u ⟨fun id st hst => Nat.lt_of_lt_of_le (gh.ob id st hst) F.size, gh.inj, fun b hm => ?_, gh'.gl.im fun _ h => .inl h⟩ ⟨U, fun _ _ => rfl, fun b h1 _ => hb b h1, fun _ _ h1 h2 => absurd h2 (by show ¬ _ < γ.cur _; omega), fun b hm hlt => ?_, F.lp, F.size, F.os, F.tape, F.output, F.fz⟩
  (Fz.ok (γ := γ') (γ' := γ2) (fun b h => .inl h) (fun id c hc => hob' id c trivial hc) (fun _ h => h.elim) (fun id st vs e fr _ hst hc => .inr ⟨⟨id, st, hst, rfl⟩, vs, e, fr, hc⟩) hz u hu)
  (fun id c hid hc => HoldsO.mono U rfl (fun st hst => hb _ (gh.ob id st hst)) (hob id c hid hc)) hnx
 ·rcases hm with hm | ⟨⟨id', st', h1, h2⟩, h3⟩
  ·refine ⟨(gh'.im b hm).1, fun id st hst e => ?_⟩
   have hlt := gh.ob id st hst
   have e : (γ.β id st).1 = b := e
   rw [e] at hlt
   exact (gh.im b (F.imn b hm hlt)).2 id st hst e
  ·refine ⟨h3, fun id st hst e => ?_⟩
   have hlt := gh.ob id st hst
   have e : (γ.β id st).1 = b := e
   have := hnew id' st' h1
   omega
 ·rcases hm with hm | ⟨⟨id', st', h1, h2⟩, h3⟩
  ·exact F.imn b hm hlt
  ·have := hnew id' st' h1
   omega
end
end Go.Ev
end
