import Derived.Test.YtjgbfnciedkafaaEvUV
import Derived.RowKit3
set_option linter.all false
set_option maxHeartbeats 8000000
noncomputable section
namespace Go.Ev
open Go.RowKit (Below)
theorem rZ (m i : Nat) : eI m i = m.testBit i := by
 unfold eI
 rw [Nat.testBit_eq_decide_div_mod_eq]
 have h1 : Nat.land (Nat.shiftRight m i) 1 = m / 2 ^ i % 2 := by
  show (m >>> i) &&& 1 = _
  rw [Nat.and_one_is_mod, Nat.shiftRight_eq_div_pow]
 rw [h1]
 by_cases h : m / 2 ^ i % 2 = 1
 ·rw [h]; rfl
 ·rw [decide_eq_false h]
  cases hb : Nat.beq (m / 2 ^ i % 2) 1 with
  | false => rfl
  | true => exact absurd (Nat.eq_of_beq_eq_true hb) h
theorem mD {M : List Nat} {i : Nat} : ∀ {es : List Edge}, (jR M es).testBit i = true -> ∃ e ∈ es, Region.binds .any e = true /\ (i = e.on \/ (dV M e.on).testBit i = true)
 | [], h => by simp [jR] at h
 | e :: es, h => by
   simp only [jR] at h
   cases hb : Region.binds .any e with
   | false =>
     rw [hb] at h
     obtain ⟨e', h1, h2⟩ := mD (es := es) h
     exact ⟨e', by simp [h1], h2⟩
   | true =>
     rw [hb] at h
     simp only [cond_true] at h
     have h : ((1 <<< e.on ||| dV M e.on) ||| jR M es).testBit i = true := h
     rw [Nat.testBit_or, Nat.testBit_or, Nat.one_shiftLeft, Nat.testBit_two_pow] at h
     simp only [Bool.or_eq_true, decide_eq_true_eq] at h
     rcases h with (h | h) | h
     ·exact ⟨e, by simp, hb, .inl h.symm⟩
     ·exact ⟨e, by simp, hb, .inr h⟩
     ·obtain ⟨e', h1, h2⟩ := mD (es := es) h
      exact ⟨e', by simp [h1], h2⟩
theorem pN {j : Nat} : ∀ {es : List Edge}, oJ j es = true -> ∀ e ∈ es, Region.binds .any e = true -> e.on < j
 | [], _, e, he, _ => by cases he
 | e0 :: es, h, e, he, hb => by
   simp only [oJ] at h
   cases h1 : Region.binds .any e0 with
   | false =>
     rw [h1] at h
     rcases List.mem_cons.1 he with rfl | he
     ·rw [h1] at hb; cases hb
     ·exact pN h e he hb
   | true =>
     cases h2 : Nat.blt e0.on j with
     | false => rw [h1, h2] at h; cases h
     | true =>
       rw [h1, h2] at h
       rcases List.mem_cons.1 he with rfl | he
       ·exact Nat.le_of_ble_eq_true h2
       ·exact pN h e he hb
theorem xF {M : List Nat} : ∀ {os : List Oper} {j : Nat}, fZ M j os = true -> ∀ k o, os[k]? = some o -> (∀ e ∈ o.after.toList, Region.binds .any e = true -> e.on < j + k) /\ dV M (j + k) = jR M o.after.toList
 | [], _, _, k, o, ho => by simp at ho
 | o0 :: os, j, h, k, o, ho => by
   simp only [fZ] at h
   cases h1 : oJ j o0.after.toList with
   | false => rw [h1] at h; cases h
   | true =>
     cases h2 : Nat.beq (dV M j) (jR M o0.after.toList) with
     | false => rw [h1, h2] at h; cases h
     | true =>
       rw [h1, h2] at h
       cases k with
       | zero =>
         simp at ho
         subst ho
         exact ⟨pN h1, Nat.eq_of_beq_eq_true h2⟩
       | succ k =>
         have := xF (j := Nat.succ j) h k o (by simpa using ho)
         rw [show j + (k + 1) = Nat.succ j + k by omega]
         exact this
theorem rX {M : List Nat} {x : Fp} {i : Nat} : ∀ {l : List Fp} {j : Nat}, gR M x i j l = true -> ∀ k y, l[k]? = some y -> eI (dV M (j + k)) i = true \/ pO x y = true
 | [], _, _, k, y, hy => by simp at hy
 | t :: l, j, h, k, y, hy => by
   simp only [gR] at h
   have main : gR M x i (Nat.succ j) l = true /\ (eI (dV M j) i = true \/ pO x t = true) := by
    cases h1 : eI (dV M j) i with
    | true => rw [h1] at h; exact ⟨h, .inl rfl⟩
    | false => cases h2 : pO x t with
      | true => rw [h1, h2] at h; exact ⟨h, .inr rfl⟩
      | false => rw [h1, h2] at h; cases h
   cases k with
   | zero => simp at hy; subst hy; exact main.2
   | succ k =>
     have := rX main.1 k y (by simpa using hy)
     rw [show j + (k + 1) = Nat.succ j + k by omega]
     exact this
theorem vV {M : List Nat} : ∀ {l : List Fp} {i : Nat}, fX M i l = true -> ∀ a b x y, a < b -> l[a]? = some x -> l[b]? = some y -> eI (dV M (i + b)) (i + a) = true \/ pO x y = true
 | [], _, _, a, b, x, y, _, hx, _ => by simp at hx
 | t :: l, i, h, a, b, x, y, hab, hx, hy => by
   simp only [fX] at h
   cases h1 : gR M t i (Nat.succ i) l with
   | false => rw [h1] at h; cases h
   | true =>
     rw [h1] at h
     cases b with
     | zero => omega
     | succ b =>
       cases a with
       | zero =>
         simp at hx
         subst hx
         have := rX h1 b y (by simpa using hy)
         rw [show i + (b + 1) = Nat.succ i + b by omega]
         exact this
       | succ a =>
         have := vV (i := Nat.succ i) h a b x y (by omega) (by simpa using hx) (by simpa using hy)
         rw [show i + (b + 1) = Nat.succ i + b by omega, show i + (a + 1) = Nat.succ i + a by omega]
         exact this
theorem wT {d : Nat} : ∀ {l : List Nat}, DS d l = true ↔ d ∈ l
 | [] => by simp [DS]
 | e :: l => by
   simp only [DS, List.mem_cons]
   cases h : Nat.beq d e with
   | true => simp [Nat.eq_of_beq_eq_true h]
   | false =>
     have : d ≠ e := fun e => by subst e; simp at h
     simp [this, wT (l := l)]
theorem yD {a b : Fp} (h : pO a b = true) : (∀ d, b.2 = some d -> d ∉ a.1) /\ ∀ d, a.2 = some d -> d ∉ b.1 := by
 unfold pO at h
 cases h1 : LE b.2 a.1 with
 | true => rw [h1] at h; cases h
 | false => cases h2 : LE a.2 b.1 with
   | true => rw [h1, h2] at h; cases h
   | false =>
     refine ⟨fun d hd hm => ?_, fun d hd hm => ?_⟩
     ·rw [hd] at h1
      have h1 : DS d a.1 = false := h1
      rw [wT.2 hm] at h1; cases h1
     ·rw [hd] at h2
      have h2 : DS d b.1 = false := h2
      rw [wT.2 hm] at h2; cases h2
theorem DY {P : Program} {nt : Nat} {ops : Array Oper} : ∀ {l : List Oper} {k : Nat} {o : Oper}, l[k]? = some o -> (IJ (dC P nt ops l) l)[k]? = some (JX o.dst ((hG P nt ops o).ss.map Pos.ix), o.dst)
 | [], k, o, h => by simp at h
 | o0 :: l, k, o, h => by
   cases k with
   | zero => simp at h; subst h; rfl
   | succ k =>
     have := DY (P := P) (nt := nt) (ops := ops) (l := l) (k := k) (o := o) (by simpa using h)
     simpa [IJ, dC] using this
section
variable {P : Program} {nt : Nat} {ops : Array Oper} {M : List Nat} {xs : Nat -> X} {Ls : Nat -> T Bool}
def wr (ops : Array Oper) (Ls : Nat -> T Bool) (i : Nat) : Pos ⊕ Pos -> Prop
 | .inl s => (ops[i]?).bind (·.dst) = some s.ix
 | .inr id => (Ls i).get id = some true
def tc (P : Program) (nt : Nat) (ops : Array Oper) (Ls : Nat -> T Bool) (i : Nat) : Pos ⊕ Pos -> Prop
 | .inl s => s ∈ fW P nt ops i \/ (ops[i]?).bind (·.dst) = some s.ix
 | .inr id => ∃ b, (Ls i).get id = some b
def tD (ops : Array Oper) (L : Nat -> Bool) : Prop := ∀ (j : Nat) o, ops[j]? = some o -> L j = true -> ∀ e ∈ o.after, Region.binds .any e = true -> L e.on = true
def Em (ops : Array Oper) (Ls : Nat -> T Bool) (S : Nat -> Bool) (r : Pos ⊕ Pos) (t : Nat) : Prop := ∀ j, j < ops.size -> wr ops Ls j r -> (j < t ↔ S j = true)
structure Fine (P : Program) (nt : Nat) (ops : Array Oper) (M : List Nat) (Ls : Nat -> T Bool) : Prop where
 conf : ∀ i j, i < ops.size -> j < ops.size -> i ≠ j -> ∀ r, tc P nt ops Ls i r -> wr ops Ls j r -> eI (dV M j) i = true \/ eI (dV M i) j = true
 lt : ∀ i j, j < ops.size -> eI (dV M j) i = true -> i < j
 closed : ∀ L, tD ops L -> ∀ i j, j < ops.size -> eI (dV M j) i = true -> L j = true -> L i = true
 edge : ∀ j o, ops[j]? = some o -> ∀ e ∈ o.after, Region.binds .any e = true -> e.on < j
theorem VU {i : Nat} {r : Pos ⊕ Pos} (h : wr ops Ls i r) : tc P nt ops Ls i r := by
 cases r with
 | inl s => exact .inr h
 | inr id => exact ⟨true, h⟩
theorem Fine.of (hm : fZ M 0 ops.toList = true) (hp : fX M 0 (IJ (dC P nt ops ops.toList) ops.toList) = true) (hl : ∀ i j, i < j -> j < ops.size -> eI (dV M j) i = true \/ iV (Ls i) (Ls j) = true) : Fine P nt ops M Ls := by
 have at' : ∀ j (hj : j < ops.size), (∀ e ∈ (ops[j]).after, Region.binds .any e = true -> e.on < j) /\ dV M j = jR M (ops[j]).after.toList := by
  intro j hj
  have := xF hm j ops[j] (by simp [hj])
  rw [Nat.zero_add] at this
  exact ⟨fun e he hb => this.1 e (by simpa using he) hb, this.2⟩
 have hclosed : ∀ L, tD ops L -> ∀ i j, j < ops.size -> eI (dV M j) i = true -> L j = true -> L i = true := by
  intro L hL i j
  induction j using Nat.strongRecOn generalizing i with
  | _ j ih =>
    intro hj hb hLj
    obtain ⟨h1, h2⟩ := at' j hj
    rw [rZ, h2] at hb
    obtain ⟨e, he, hbe, h3⟩ := mD hb
    have he : e ∈ (ops[j]).after := by simpa using he
    have hLe : L e.on = true := hL j ops[j] (Array.getElem?_eq_getElem hj) hLj e he hbe
    rcases h3 with rfl | h3
    ·exact hLe
    ·have hlt := h1 e he hbe
     exact ih e.on hlt i (by omega) (by rw [rZ]; exact h3) hLe
 have hlt : ∀ i j, j < ops.size -> eI (dV M j) i = true -> i < j := by
  intro i j
  induction j using Nat.strongRecOn generalizing i with
  | _ j ih =>
    intro hj hb
    obtain ⟨h1, h2⟩ := at' j hj
    rw [rZ, h2] at hb
    obtain ⟨e, he, hbe, h3⟩ := mD hb
    have hlt := h1 e (by simpa using he) hbe
    rcases h3 with rfl | h3
    ·exact hlt
    ·have := ih e.on hlt i (by omega) (by rw [rZ]; exact h3)
     omega
 refine ⟨?_, hlt, hclosed, fun j o ho e he hb => ?_⟩
 ·have key : ∀ i j, i < j -> j < ops.size -> ∀ r, (tc P nt ops Ls i r -> wr ops Ls j r -> eI (dV M j) i = true) /\ (tc P nt ops Ls j r -> wr ops Ls i r -> eI (dV M j) i = true) := by
   intro i j hij hj r
   have hi : i < ops.size := by omega
   cases r with
   | inl s =>
     have f1 := DY (P := P) (nt := nt) (ops := ops) (l := ops.toList) (k := i) (o := ops[i]) (by simp [hi])
     have f2 := DY (P := P) (nt := nt) (ops := ops) (l := ops.toList) (k := j) (o := ops[j]) (by simp [hj])
     have hh := vV hp i j _ _ hij f1 f2
     rw [Nat.zero_add, Nat.zero_add] at hh
     have names : ∀ k (hk : k < ops.size), tc P nt ops Ls k (.inl s) -> s.ix ∈ JX (ops[k]).dst ((hG P nt ops ops[k]).ss.map Pos.ix) := by
      intro k hk h
      have hk' : ops[k]? = some ops[k] := Array.getElem?_eq_getElem hk
      rcases h with h | h
      ·unfold fW at h
       rw [hk'] at h
       have : s.ix ∈ (hG P nt ops ops[k]).ss.map Pos.ix := List.mem_map.2 ⟨s, h, rfl⟩
       cases (ops[k]).dst with
       | none => exact this
       | some d => exact List.mem_cons_of_mem _ this
      ·rw [hk'] at h
       have h : (ops[k]).dst = some s.ix := h
       rw [h]; exact List.mem_cons_self
     have dst : ∀ k (hk : k < ops.size), wr ops Ls k (.inl s) -> (ops[k]).dst = some s.ix := by
      intro k hk h
      have hk' : ops[k]? = some ops[k] := Array.getElem?_eq_getElem hk
      have h : (ops[k]?).bind (·.dst) = some s.ix := h
      rw [hk'] at h
      exact h
     refine ⟨fun h1 h2 => ?_, fun h1 h2 => ?_⟩
     ·rcases hh with hh | hh
      ·exact hh
      ·exact absurd (names i hi h1) ((yD hh).1 _ (dst j hj h2))
     ·rcases hh with hh | hh
      ·exact hh
      ·exact absurd (names j hj h1) ((yD hh).2 _ (dst i hi h2))
   | inr id =>
     refine ⟨fun ⟨b, h1⟩ h2 => ?_, fun ⟨b, h1⟩ h2 => ?_⟩
     ·rcases hl i j hij hj with hh | hh
      ·exact hh
      ·have := (rH hh id h1 h2).2
       cases this
     ·rcases hl i j hij hj with hh | hh
      ·exact hh
      ·have := (rH hh id h2 h1).1
       cases this
  intro i j hi hj hne r h1 h2
  rcases Nat.lt_or_gt_of_ne hne with h | h
  ·exact .inl ((key i j h hj r).1 h1 h2)
  ·exact .inr ((key j i h hi r).2 h1 h2)
 ·have hj : j < ops.size := (Array.getElem?_eq_some_iff.1 ho).1
  rw [Array.getElem?_eq_getElem hj] at ho
  cases ho
  exact (at' j hj).1 e he hb
structure Inv (P : Program) (ops : Array Oper) (xs : Nat -> X) (Ls : Nat -> T Bool) (so : Pos -> Prop) (S : Nat -> Bool) (γ : Gh) (a : Act) (w : World) : Prop where
 sl : ∀ p t, t <= ops.size -> Em ops Ls S (.inl p) t -> ∀ d, (xs t).sl.get p = some d -> p.ix < a.tmps.size /\ DV γ w d (a.tmps.getD p.ix undef)
 ob : ∀ id t, so id -> t <= ops.size -> Em ops Ls S (.inr id) t -> (∀ c, (xs t).ob.get id = some c -> HoldsO P γ w id c) /\ ((xs t).nx.nat <= id.nat -> γ.cur id = 0)
theorem Fine.cur (F : Fine P nt ops M Ls) {S : Nat -> Bool} (hC : tD ops S) {i : Nat} (hi : i < ops.size) (hn : S i = false) (hpre : ∀ o, ops[i]? = some o -> ∀ e ∈ o.after, Region.binds .any e = true -> S e.on = true) {r : Pos ⊕ Pos} (h : tc P nt ops Ls i r) : Em ops Ls S r i := by
 have hC' : tD ops (fun j => S j || j == i) := by
  intro j o ho hj e he hb
  by_cases hji : j = i
  ·subst hji; simp [hpre o ho e he hb]
  ·have : S j = true := by simpa [hji] using hj
   simp [hC j o ho this e he hb]
 intro j hj hw
 by_cases hji : j = i
 ·subst hji
  simp [hn]
 ·constructor
  ·intro hlt
   rcases F.conf i j hi hj (fun e => hji e.symm) r h hw with hb | hb
   ·have := F.lt i j hj hb; omega
   ·have := F.closed _ hC' j i hi hb (by simp)
    simpa [hji] using this
  ·intro hS
   rcases F.conf i j hi hj (fun e => hji e.symm) r h hw with hb | hb
   ·have := F.closed _ hC i j hj hb hS
    rw [hn] at this; cases this
   ·exact F.lt j i hi hb
theorem Inv.step {so : Pos -> Prop} {S S' : Nat -> Bool} (F : Fine P nt ops M Ls) (hok : ∀ i, i < ops.size -> IOk P nt ops i (fW P nt ops i) ((xs i).at (some .e)) ((xs (i + 1)).at (some (Ls i))))
 (hC : tD ops S) {i : Nat} (hi : i < ops.size) (hn : S i = false) (hpre : ∀ o, ops[i]? = some o -> ∀ e ∈ o.after, Region.binds .any e = true -> S e.on = true) (hS' : ∀ j, S' j = (S j || j == i))
 {ro : Option Nat} {γ γ' : Gh} {a a' : Act} {w w' : World} (g : G ro γ a w) (I : Inv P ops xs Ls so S γ a w) (st : St ro (some (Ls i)) ((ops[i]?).bind (·.dst)) γ a w γ' a' w')
 (R : Rep P ⟨fun p => Em ops Ls S (.inl p) i, fun id => so id /\ Em ops Ls S (.inr id) i⟩ γ' a' w' ((xs (i + 1)).at (some (Ls i)))) : Inv P ops xs Ls so S' γ' a' w' := by
 -- behind the operation, up to t, no lS writer
 have later : ∀ (r : Pos ⊕ Pos) t, wr ops Ls i r -> t <= ops.size -> Em ops Ls S' r t -> Em ops Ls S r i /\ i < t /\ ∀ j, i < j -> j < t -> ¬ wr ops Ls j r := by
  intro r t hw ht hcur
  have hc := F.cur hC hi hn hpre (VU hw)
  refine ⟨hc, (hcur i hi hw).2 (by rw [hS']; simp), fun j hij hjt hwj => ?_⟩
  have h1 := (hcur j (by omega) hwj).1 hjt
  rw [hS'] at h1
  have hne : (j == i) = false := by simp; omega
  rw [hne, Bool.or_false] at h1
  have := (hc j (by omega) hwj).2 h1
  omega
 have before : ∀ (r : Pos ⊕ Pos) t, ¬ wr ops Ls i r -> Em ops Ls S' r t -> Em ops Ls S r t := by
  intro r t hw hcur j hj hwj
  have hne : j ≠ i := fun e => hw (e ▸ hwj)
  have := hcur j hj hwj
  rw [hS'] at this
  have hne : (j == i) = false := by simpa using hne
  rwa [hne, Bool.or_false] at this
 refine ⟨fun p t ht hcur d hd => ?_, fun id t hid ht hcur => ?_⟩
 ·by_cases hw : wr ops Ls i (.inl p)
  ·obtain ⟨hc, hit, hnone⟩ := later _ t hw ht hcur
   have same : ∀ k, i + 1 + k <= t -> (xs (i + 1 + k)).sl.get p = (xs (i + 1)).sl.get p := by
    intro k
    induction k with
    | zero => intro _; rfl
    | succ k ih =>
      intro hk
      rw [<- ih (by omega)]
      exact (hok (i + 1 + k) (by omega)).slf p (fun e => hnone (i + 1 + k) (by omega) (by omega) e)
   have := same (t - (i + 1)) (by omega)
   rw [show i + 1 + (t - (i + 1)) = t by omega] at this
   rw [this] at hd
   exact R.sl p d hc hd
  ·obtain ⟨h1, h2⟩ := I.sl p t ht (before _ t hw hcur) d hd
   refine ⟨by rw [st.sz]; exact h1, ?_⟩
   rw [st.sl p.ix hw]
   exact DV.mono st.fr.up _ _ h2
 ·by_cases hw : wr ops Ls i (.inr id)
  ·obtain ⟨hc, hit, hnone⟩ := later _ t hw ht hcur
   have same : ∀ k, i + 1 + k <= t -> (xs (i + 1 + k)).ob.get id = (xs (i + 1)).ob.get id /\ (xs (i + 1)).nx.nat <= (xs (i + 1 + k)).nx.nat := by
    intro k
    induction k with
    | zero => intro _; exact ⟨rfl, Nat.le_refl _⟩
    | succ k ih =>
      intro hk
      obtain ⟨h1, h2⟩ := ih (by omega)
      refine ⟨?_, Nat.le_trans h2 (hok (i + 1 + k) (by omega)).nx⟩
      rw [<- h1]
      exact (hok (i + 1 + k) (by omega)).obf id (fun e => hnone (i + 1 + k) (by omega) (by omega) e)
   obtain ⟨h1, h2⟩ := same (t - (i + 1)) (by omega)
   rw [show i + 1 + (t - (i + 1)) = t by omega] at h1 h2
   refine ⟨fun c hcc => R.ob id c ⟨hid, hc⟩ (h1.symm.trans hcc), fun hle => R.nx id ⟨hid, hc⟩ (Nat.le_trans h2 hle)⟩
  ·obtain ⟨h1, h2⟩ := I.ob id t hid ht (before _ t hw hcur)
   refine ⟨fun c hcc => st.fr.keep g hw (h1 c hcc), fun hle => ?_⟩
   rw [st.fr.cur id hw]
   exact h2 hle
theorem Ja {so : Pos -> Prop} {lgZ : Option (T Bool)} (F : Fine P nt ops M Ls) (hok : ∀ i, i < ops.size -> IOk P nt ops i (fW P nt ops i) ((xs i).at (some .e)) ((xs (i + 1)).at (some (Ls i))))
 (ht : ∀ i, i < ops.size -> ∀ id, tchd (some (Ls i)) id -> so id) (hw : ∀ i, i < ops.size -> ∀ id, wrtn (some (Ls i)) id -> wrtn lgZ id)
 {ro : Option Nat} {n : Nat} {Q : Exit -> Act -> World -> Prop} {Ny : Gh} {a0 : Act} {w0 : World} (hn0 : a0.tmps.size = nt)
 (hQ : ∀ γ a w, CSt ro lgZ Ny a0 w0 γ a w -> Rep P (gM so) γ a w ((xs ops.size).at lgZ) -> Q .normal a w) :
 ∀ (fuel : Nat) (listed : Array Bool) (γ : Gh) (a : Act) (w : World), CSt ro lgZ Ny a0 w0 γ a w -> listed.size = ops.size -> tD ops (fun j => listed.getD j false) ->
   Inv P ops xs Ls so (fun j => listed.getD j false) γ a w ->
   (List.range ops.size).countP (fun j => !listed.getD j false) <= fuel -> wpAnyIn (FW ro) n P .any ops Q fuel listed a w := by
 have done : ∀ (listed : Array Bool) (γ : Gh) (a : Act) (w : World), CSt ro lgZ Ny a0 w0 γ a w -> listed.size = ops.size ->
  Inv P ops xs Ls so (fun j => listed.getD j false) γ a w -> Region.ready .any ops listed = [] -> Q .normal a w := by
  intro listed γ a w hS hsz hI hr
  have all : ∀ m, m <= ops.size -> ∀ j, j < m -> listed.getD j false = true := by
   intro m
   induction m with
   | zero => intro _ j hj; omega
   | succ m ih =>
     intro hm j hj
     by_cases hjm : j < m
     ·exact ih (by omega) j hjm
     ·obtain rfl : j = m := by omega
      cases hl : listed.getD j false with
      | true => rfl
      | false =>
        exfalso
        have : j ∈ Region.ready .any ops listed := by
         unfold Region.ready
         rw [List.mem_filter]
         refine ⟨by simp; omega, ?_⟩
         have hlt : j < listed.size := by omega
         have h1 : listed.getD j true = false := by
          simp [Array.getD, hlt] at hl ⊢; exact hl
         have ho : ops[j]? = some ops[j] := Array.getElem?_eq_getElem (by omega)
         rw [h1, ho]
         simp only [Bool.not_false, Bool.true_and, Option.map_some, Option.getD_some, Array.all_eq_true_iff_forall_mem, Bool.or_eq_true, Bool.not_eq_true']
         intro e he
         by_cases hb : Region.binds .any e = true
         ·exact .inr (ih (by omega) e.on (F.edge j _ ho e he hb))
         ·exact .inl (by simpa using hb)
        rw [hr] at this
        cases this
  have cur : ∀ r, Em ops Ls (fun j => listed.getD j false) r ops.size := fun r j hj _ => ⟨fun _ => all _ (Nat.le_refl _) j hj, fun _ => hj⟩
  exact hQ γ a w hS ⟨fun p d _ hd => hI.sl p _ (Nat.le_refl _) (cur _) d hd, fun id c hid hc => (hI.ob id _ hid (Nat.le_refl _) (cur _)).1 c hc, fun id hid hle => (hI.ob id _ hid (Nat.le_refl _) (cur _)).2 hle, hS.g.gl⟩
 intro fuel
 induction fuel with
 | zero =>
   intro listed γ a w hS hsz hC hI hf
   have hr : Region.ready .any ops listed = [] := by
    unfold Region.ready
    rw [List.filter_eq_nil_iff]
    intro j hj h
    have h0 := List.countP_eq_zero.1 (Nat.le_zero.1 hf) j hj
    have hlt : j < listed.size := by simp at hj; omega
    simp [Array.getD, hlt] at h0 h
    rw [h0] at h
    simp at h
   exact ⟨hr, done listed γ a w hS hsz hI hr⟩
 | succ fuel ih =>
   intro listed γ a w hS hsz hC hI hf
   refine ⟨done listed γ a w hS hsz hI, ?_⟩
   intro i hi
   unfold Region.ready at hi
   rw [List.mem_filter] at hi
   obtain ⟨hir, hi⟩ := hi
   have hilt : i < ops.size := by simpa using hir
   have hlt : i < listed.size := by omega
   have ho : ops[i]? = some ops[i] := Array.getElem?_eq_getElem hilt
   rw [ho] at hi
   simp only [Bool.and_eq_true, Bool.not_eq_true', Option.map_some, Option.getD_some, Array.all_eq_true_iff_forall_mem, Bool.or_eq_true] at hi
   obtain ⟨hi1, hi2⟩ := hi
   have hn : listed.getD i false = false := by
    simp [Array.getD, hlt] at hi1 ⊢; exact hi1
   have hpre : ∀ o, ops[i]? = some o -> ∀ e ∈ o.after, Region.binds .any e = true -> listed.getD e.on false = true := by
    intro o ho' e he hb
    rw [ho] at ho'
    cases ho'
    rcases hi2 e he with h | h
    ·rw [hb] at h; cases h
    ·exact h
   have hL' : ∀ j, (listed.setIfInBounds i true).getD j false = (listed.getD j false || j == i) := by
    intro j
    by_cases hji : j = i
    ·subst hji; simp [hlt]
    ·have : (j == i) = false := by simpa using hji
     have hne : i ≠ j := fun e => hji e.symm
     simp [this, Array.getElem?_setIfInBounds_ne hne]
   refine (hok i hilt).ok ⟨fun p => Em ops Ls (fun j => listed.getD j false) (.inl p) i, fun id => so id /\ Em ops Ls (fun j => listed.getD j false) (.inr id) i⟩
    (fun s hs => F.cur hC hilt hn hpre (.inl hs)) (fun id hid => ⟨ht i hilt id hid, F.cur hC hilt hn hpre (show tc P nt ops Ls i (.inr id) from hid)⟩) ro γ a w (hS.sz.trans hn0) hS.g
    ⟨fun p d hp hd => hI.sl p i (by omega) hp d hd, fun id c hid hc => (hI.ob id i hid.1 (by omega) hid.2).1 c hc, fun id hid hle => (hI.ob id i hid.1 (by omega) hid.2).2 hle, hS.g.gl⟩ _ _ Q ?_
   intro γ' a' w' st R
   have cst : CSt ro lgZ γ a w γ' a' w' := ⟨st.g, st.fr.mono (hw i hilt), st.sz, st.code.dn⟩
   refine ih (listed.setIfInBounds i true) γ' a' w' (CSt.trans (LgLe.refl _) hS cst) (by simpa using hsz) ?_ (Inv.step F hok hC hilt hn hpre hL' hS.g hI st R) ?_
   ·intro j o hoj hj e he hb
    have hj : (listed.getD j false || j == i) = true := by rw [<- hL']; exact hj
    show (listed.setIfInBounds i true).getD e.on false = true
    rw [hL']
    by_cases hji : j = i
    ·subst hji; simp [hpre o hoj e he hb]
    ·have : listed.getD j false = true := by simpa [hji] using hj
     simp [hC j o hoj this e he hb]
   ·have h1 : (List.range ops.size).countP (fun j => !(listed.setIfInBounds i true).getD j false) + 1 <= (List.range ops.size).countP (fun j => !listed.getD j false) := by
     have hmem : i ∈ List.range ops.size := by simpa using hilt
     generalize List.range ops.size = l at hmem
     have mono : ∀ l : List Nat, l.countP (fun j => !(listed.setIfInBounds i true).getD j false) <= l.countP (fun j => !listed.getD j false) := fun l =>
      List.countP_mono_left (fun j _ hj => by
       rw [hL'] at hj
       simp only [Bool.not_eq_true', Bool.or_eq_false_iff] at hj ⊢
       exact hj.1)
     induction l with
     | nil => cases hmem
     | cons k l ihl =>
       rw [List.countP_cons, List.countP_cons]
       rcases List.mem_cons.1 hmem with rfl | hm
       ·have e1 : (!(listed.setIfInBounds i true).getD i false) = false := by rw [hL']; simp
        have e2 : (!listed.getD i false) = true := by rw [hn]; rfl
        rw [e1, e2]
        have := mono l
        rw [if_neg (by decide), if_pos rfl]
        omega
       ·have := ihl hm
        have h3 : (if (!(listed.setIfInBounds i true).getD k false) = true then 1 else 0) <= (if (!listed.getD k false) = true then 1 else 0) := by
         rw [hL']
         cases listed.getD k false <;> cases (k == i) <;> simp
        omega
    omega
theorem EK {ro : Option Nat} {γ : Gh} {a : Act} {w : World} (g : G ro γ a w) (S : Pos -> Prop) : Fr S γ γ w { w with drawn := w.drawn + 1 } /\ G ro γ a { w with drawn := w.drawn + 1 } := by
 have F : Fr S γ γ w { w with drawn := w.drawn + 1 } := ⟨⟨fun _ => Nat.le_refl _, fun _ _ _ => rfl, fun _ _ h => h, fun _ h => ⟨h, fun _ h => h⟩⟩, fun _ _ => rfl, fun _ _ _ => rfl, fun _ _ h1 h2 => absurd h2 (by omega), fun _ h _ => h, fun _ r h => ⟨r, h⟩, Nat.le_refl _, rfl, rfl, rfl, fun _ => rfl⟩
 exact ⟨F, g.of F rfl g.ob g.inj g.im⟩
theorem XOk.drw {FP : T RF} {ex : RC -> X -> Option (Ex × X)} (hFP : FPok P FP) (IH : ∀ nt c x e Z, ex (aT P nt c) x = some (e, Z) -> XOk P nt c x e Z) {id : Nat} {x Z : X} {e : Ex} (hm : P.follows .mixedOrders = true) (hM : fZ M 0 ops.toList = true) (hp : fX M 0 (IJ (dC P nt ops ops.toList) ops.toList) = true)
 (h : HP P FP ex (dC P nt ops ops.toList) M x = some (e, Z)) : XOk P nt (.region id ops true) x e Z := by
 unfold HP at h
 split at h
 ·rename_i y hy
  cases h
  obtain ⟨xs, Ls, R⟩ := FS (ops := ops) hFP IH (M := M) ops.toList [] rfl (fun j => by rw [List.length_nil, Nat.zero_add]) hy
  have F : Fine P nt ops M Ls := Fine.of hM hp fun i j hij hj => R.pr i j (Nat.zero_le _) hij hj
  have hok : ∀ i, i < ops.size -> IOk P nt ops i (fW P nt ops i) ((xs i).at (some .e)) ((xs (i + 1)).at (some (Ls i))) := fun i hi => R.ok i (Nat.zero_le _) hi
  obtain ⟨b1, b2, b3⟩ := R.b
  obtain ⟨e1, e2, e3⟩ := R.e
  have chain : ∀ k, k <= ops.size -> Keeps Z.lg (xs 0).ob (xs k).ob /\ (xs 0).nx.nat <= (xs k).nx.nat := by
   intro k
   induction k with
   | zero => intro _; exact ⟨Keeps.refl _ _, Nat.le_refl _⟩
   | succ k ih =>
     intro hk
     obtain ⟨h1, h2⟩ := ih (by omega)
     exact ⟨fun id hn => ((hok k (by omega)).obf id fun hw => hn (R.w k (Nat.zero_le _) (by omega) id hw)).trans (h1 id hn), Nat.le_trans h2 (hok k (by omega)).nx⟩
  obtain ⟨c1, c2⟩ := chain ops.size (Nat.le_refl _)
  rw [e2] at c1
  rw [e3] at c2
  have c1 : Keeps Z.lg x.ob Z.ob := by
   have b2 : (xs 0).ob = x.ob := b2
   rw [b2] at c1; exact c1
  have c2 : x.nx.nat <= Z.nx.nat := by
   have b3 : (xs 0).nx = x.nx := b3
   rw [b3] at c2; exact c2
  refine ⟨R.lg, c2, c1, fun so hso ro γ a w hn g Rp n Q hQ => wpIn_region_any hm ?_⟩
  obtain ⟨F0, g0⟩ := EK g (wrtn Z.lg)
  refine Ja F hok (fun i hi id hid => hso id (R.t i (Nat.zero_le _) hi id hid)) (fun i hi => R.w i (Nat.zero_le _) hi) hn (fun γ' a' w' cst rep => hQ γ' a' w' cst ?_) ops.size (Array.replicate ops.size false) γ a _ ⟨g0, F0, rfl, fun r hr => .inl hr⟩ (by simp) ?_ ?_ ?_
  ·refine ⟨fun s d hs hd => rep.sl s d hs (e1.symm ▸ hd), fun id c hid hc => rep.ob id c hid (e2.symm ▸ hc), fun id hid hle => rep.nx id hid ?_, rep.gl⟩
   show (xs ops.size).nx.nat <= id.nat
   rw [e3]; exact hle
  ·intro j o ho hj e he hb
   have hjl : j < ops.size := (Array.getElem?_eq_some_iff.1 ho).1
   simp [hjl] at hj
  ·-- nothing has been: all is as at the start, up to the first writer
   have none : ∀ r t, t <= ops.size -> Em ops Ls (fun j => (Array.replicate ops.size false).getD j false) r t -> ∀ j, j < t -> ¬ wr ops Ls j r := by
    intro r t ht hcur j hj hw
    have hjl : j < ops.size := by omega
    have := (hcur j hjl hw).1 hj
    simp [hjl] at this
   refine ⟨fun p t ht hcur d hd => ?_, fun id t hid ht hcur => ?_⟩
   ·have hn' := none _ t ht hcur
    have same : ∀ k, k <= t -> (xs k).sl.get p = (xs 0).sl.get p := by
     intro k
     induction k with
     | zero => intro _; rfl
     | succ k ih => exact fun hk => ((hok k (by omega)).slf p (fun e => hn' k (by omega) e)).trans (ih (by omega))
    rw [same t (Nat.le_refl _)] at hd
    have b1 : (xs 0).sl = x.sl := b1
    rw [b1] at hd
    obtain ⟨q1, q2⟩ := Rp.sl p d trivial hd
    exact ⟨q1, DV.mono F0.up _ _ q2⟩
   ·have hn' := none _ t ht hcur
    have same : ∀ k, k <= t -> (xs k).ob.get id = (xs 0).ob.get id /\ (xs 0).nx.nat <= (xs k).nx.nat := by
     intro k
     induction k with
     | zero => intro _; exact ⟨rfl, Nat.le_refl _⟩
     | succ k ih => exact fun hk => ⟨((hok k (by omega)).obf id (fun e => hn' k (by omega) e)).trans (ih (by omega)).1, Nat.le_trans (ih (by omega)).2 (hok k (by omega)).nx⟩
    obtain ⟨s1, s2⟩ := same t (Nat.le_refl _)
    have b2 : (xs 0).ob = x.ob := b2
    have b3 : (xs 0).nx = x.nx := b3
    rw [b2] at s1
    rw [b3] at s2
    refine ⟨fun c hc => ?_, fun hle => Rp.nx id hid (Nat.le_trans s2 hle)⟩
    rw [s1] at hc
    exact HoldsO.mono F0.up rfl (fun _ _ => rfl) (Rp.ob id c hid hc)
  ·exact Nat.le_trans List.countP_le_length (by simp)
 ·cases h
end
open Go.RowKit (Below)
section
variable {P : Program} {FP : T RF} {ex : RC -> X -> Option (Ex × X)} {nt : Nat}
theorem jM {x : X} {e : Ex} {Z : X} (h : BQ P FP ex (.reg [.u .bad]) x = some (e, Z)) : False := by
 cases x; cases h
theorem XRounds.of {c : Code} {x : X} {e : Ex} {Z : X} (IH : ∀ nt c x e Z, ex (aT P nt c) x = some (e, Z) -> XOk P nt c x e Z) (IHl : ∀ nt c x e Z, ex (.loop (aT P nt c)) x = some (e, Z) -> XRounds P nt c x e Z)
 (h : BQ P FP ex (.loop (aT P nt c)) x = some (e, Z)) : XRounds P nt c x e Z := by
 have h : DM ex (aT P nt c) x = some (e, Z) := h
 unfold DM at h
 split at h
 ·rename_i y hy
  exact .more (IH _ _ _ _ _ hy) (IHl _ _ _ _ _ h)
 ·rename_i hne
  refine .last (IH _ _ _ _ _ h) fun he => ?_
  subst he
  exact hne _ h
theorem CO (hFP : FPok P FP) (IH : ∀ nt c x e Z, ex (aT P nt c) x = some (e, Z) -> XOk P nt c x e Z) (IHl : ∀ nt c x e Z, ex (.loop (aT P nt c)) x = some (e, Z) -> XRounds P nt c x e Z) :
 ∀ (c : Code) {x : X} {e : Ex} {Z : X}, BQ P FP ex (aT P nt c) x = some (e, Z) -> XOk P nt c x e Z
 | .skip, x, e, Z, h => by cases h; exact XOk.skip
 | .label _, x, e, Z, h => by cases h; exact XOk.label
 | .ret, x, e, Z, h => by cases h; exact XOk.ret
 | .exit id, x, e, Z, h => by cases h; exact XOk.exit
 | .region id ops draw, x, e, Z, h => by
   cases draw with
   | false => exact XOk.reg hFP IH h
   | true =>
     have h : BQ P FP ex (CS P nt ops (gD [] ops.toList)) x = some (e, Z) := h
     unfold CS at h
     cases h1 : P.follows .mixedOrders with
     | false => rw [h1] at h; exact (jM h).elim
     | true =>
       cases h2 : fZ (gD [] ops.toList) 0 ops.toList with
       | false => rw [h1, h2] at h; exact (jM h).elim
       | true =>
         cases h3 : fX (gD [] ops.toList) 0 (IJ (dC P nt ops ops.toList) ops.toList) with
         | false => rw [h1, h2, h3] at h; exact (jM h).elim
         | true =>
           rw [h1, h2, h3] at h
           exact XOk.drw hFP IH h1 h2 h3 h
 | .seq a b, x, e, Z, h => by
   have h : BP ex (aT P nt a) (aT P nt b) x = some (e, Z) := h
   unfold BP at h
   split at h
   ·rename_i y hy
    exact (IH _ _ _ _ _ hy).seq (IH _ _ _ _ _ h)
   ·rename_i hne
    refine (IH _ _ _ _ _ h).seqEnd fun he => ?_
    subst he
    exact hne _ h
 | .cond c a b, x, e, Z, h => by
   simp only [aT] at h
   split at h
   ·rename_i r hr
    obtain ⟨sl, ob, nx, lg⟩ := x
    have h : Dk ex r (aT P nt a) (aT P nt b) ⟨sl, ob, nx, lg⟩ = some (e, Z) := h
    simp only [Dk] at h
    split at h
    ·rename_i hv
     exact XOk.cond hr hv (t := true) (IH _ _ _ _ _ h)
    ·rename_i hv
     exact XOk.cond hr hv (t := false) (IH _ _ _ _ _ h)
    ·cases h
   ·exact (jM h).elim
 | .block id c, x, e, Z, h => by
   replace h : It ex id (aT P nt c) x = some (e, Z) := h
   unfold It at h
   split at h
   ·rename_i i y hy
    cases hb : Nat.beq i id with
    | true =>
      rw [hb] at h
      have he := Nat.eq_of_beq_eq_true hb
      cases h
      subst he
      exact (IH _ _ _ _ _ hy).block
    | false =>
      rw [hb] at h
      cases h
      exact (IH _ _ _ _ _ hy).blockThrough fun he => by
       cases he
       simp at hb
   ·rename_i hne
    exact (IH _ _ _ _ _ h).blockThrough fun he => by
     subst he
     exact hne _ _ h
 | .loop c, x, e, Z, h => XOk.loop (XRounds.of IH IHl h)
 | .scope c, x, e, Z, h => XOk.scope (CO hFP IH IHl c h)
 | .rangeFunc f ps a b, x, e, Z, h => by
   simp only [aT] at h
   split at h
   ·rename_i r ps' hr hps
    exact XOk.rf hFP IH hr hps h
   ·exact (jM h).elim
 | .goto _, x, e, Z, h => (jM h).elim
 | .refuse _, x, e, Z, h => (jM h).elim
theorem uT (hFP : FPok P FP) : ∀ n, (∀ nt c x e Z, exec P FP n (aT P nt c) x = some (e, Z) -> XOk P nt c x e Z) /\ (∀ nt c x e Z, exec P FP n (.loop (aT P nt c)) x = some (e, Z) -> XRounds P nt c x e Z)
 | 0 => ⟨(fun _ _ _ _ _ h => by cases h), (fun _ _ _ _ _ h => by cases h)⟩
 | n + 1 => by
   obtain ⟨h1, h2⟩ := uT hFP n
   exact ⟨fun nt c x e Z h => CO hFP h1 h2 c h, fun nt c x e Z h => XRounds.of (FP := FP) h1 h2 h⟩
end
open Go.RowKit (Below Grown)
theorem Fr.grown {S : Pos -> Prop} {γ γ' : Gh} {w w' : World} (F : Fr S γ γ' w w') (h0 : ∀ id, γ.cur id = 0) : Grown w w' := by
 have hb : ∀ b, b < w.heap.size -> w'.heap[b]? = w.heap[b]? := fun b hb => F.blk b hb fun id st _ hst => by rw [h0] at hst; omega
 refine ⟨⟨F.os, F.output, fun i hi => ?_⟩, F.fz, F.size⟩
 rw [hb i hi]
 cases w.heap[i]? with
 | none => trivial
 | some o => cases o <;> first | exact ⟨rfl, rfl, rfl, fun _ _ => rfl⟩ | exact .inr ⟨rfl, rfl⟩ | rfl
def Ny : Gh := ⟨fun _ => 0, fun _ _ => (0, 0), fun b => ∃ r, LR b = some r⟩
def CM (w : World) : Prop := ∀ g r, LR g = some r -> ∃ vs e fr, w.heap[g]? = some (.cells vs e fr) /\ r.length <= vs.size /\ (∀ γ' w', DVL γ' w' r (vs.toList.take r.length)) /\ ∀ u ∈ vs.toList.take r.length, u.oneCell' = true
theorem Zu {w : World} (hL : CM w) : GH Ny w := ⟨fun _ st h => absurd h (Nat.not_lt_zero st), fun _ st _ _ h => absurd h (Nat.not_lt_zero st), fun b ⟨r, h⟩ => ⟨let ⟨vs, e, fr, h1, _⟩ := hL b r h; ⟨vs, e, fr, h1⟩, fun _ st h => absurd h (Nat.not_lt_zero st)⟩, fun g r h => ⟨⟨r, h⟩, hL g r h⟩⟩
theorem GLok.lr {γ : Gh} {w : World} (h : GLok γ w) : CM w := fun g r e => (h g r e).2
section
variable {P : Program} {FP : T RF}
def uO (P : Program) (FP : T RF) (n : Nat) (f : Pos) : Bool :=
 match yO FP (exec P FP n) f [] .e .h none (fun v ob nx lg => some ⟨T.set .h v .e, ob, nx, lg⟩) with
 | some y => match y.sl.get .h with
   | some (.b b) => b
   | _ => false
 | none => false
theorem tF {f : Nat} {ob' : T C} {nx' : Pos} {lg' : Option (T Bool)} (C : CallOk P f [] .e .h none (.b true) ob' nx' lg') (w : World) (hL : CM w) : (∀ w, (callFunc f #[]).run P w = .ok (.enter f #[]) w) /\
 ∀ (ro : Option Nat) (m : Nat) (R : Ending -> World -> Prop), (∀ γ' w', Fr (fun _ => True) Ny γ' w w' -> R (.returned (.bool true)) w') -> CallsIn (FW ro) m P f #[] w R := by
 obtain ⟨c1, c2⟩ := C.ok (fun _ => True) (fun _ _ => trivial) Ny #[] w (Zu hL) DVL.nil (fun id c _ hc => by rw [T.get_e] at hc; cases hc) (fun _ _ _ => rfl)
 refine ⟨c1, fun ro m R hR => c2 ro m R fun γ' w' u _ F hu _ _ => ?_⟩
 obtain rfl := uD hu
 exact hR γ' w' (F.mono fun _ _ => trivial)
theorem Iq {f : Nat} {ob' : T C} {nx' : Pos} {lg' : Option (T Bool)} (C : CallOk P f [] .e .h none (.b true) ob' nx' lg') (w : World) (hL : CM w) : Calls P f #[] w fun e w' => e = .returned (.bool true) /\ Grown w w' :=
 (callsIn_wide (n := 0)).1 ((tF C w hL).2 none 0 _ fun _ _ F => ⟨rfl, F.grown (fun _ => rfl)⟩)
theorem Gl (hFP : FPok P FP) {n : Nat} {f : Pos} (h : uO P FP n f = true) (w : World) (hL : CM w) : (∀ w, (callFunc f.ix #[]).run P w = .ok (.enter f.ix #[]) w) /\
 ∀ (ro : Option Nat) (m : Nat) (R : Ending -> World -> Prop), (∀ γ' w', Fr (fun _ => True) Ny γ' w w' -> R (.returned (.bool true)) w') -> CallsIn (FW ro) m P f.ix #[] w R := by
 unfold uO at h
 split at h
 ·rename_i y hy
  obtain ⟨v, ob', nx', lg', h1, C⟩ := rQ hFP (uT hFP n).1 hy
  cases h1
  have hv : v = .b true := by
   have h : (match (T.set .h v .e).get .h with
    | some (.b b) => b
    | _ => false) = true := h
   rw [T.get_set_same] at h
   split at h
   ·rename_i b hb
    cases hb
    rename_i hbt
    rw [hbt]
   ·cases h
  subst hv
  exact tF C w hL
 ·cases h
theorem CJ (hFP : FPok P FP) {n : Nat} {f : Pos} (h : uO P FP n f = true) (ob : T C) (nx : Pos) (lg : Option (T Bool)) : CallOk P f.ix [] ob nx lg (.b true) ob nx lg := by
 refine ⟨LgLe.refl _, Nat.le_refl _, Keeps.refl _ _, fun so _ γ args w gh hargs hob hnx => ?_⟩
 have hargs : args = #[] := by
  have := (aR.1 hargs).1
  simp at this
  exact Array.eq_empty_of_size_eq_zero this.symm
 subst hargs
 obtain ⟨c1, c2⟩ := Gl hFP h w gh.gl.lr
 refine ⟨c1, fun ro m R hR => c2 ro m R fun γ' w' F => ?_⟩
 have hb : ∀ b, b < w.heap.size -> w'.heap[b]? = w.heap[b]? := fun b hb => F.blk b hb fun id st _ hst => absurd hst (Nat.not_lt_zero st)
 have U : Up γ γ w w' := ⟨fun _ => Nat.le_refl _, fun _ _ _ => rfl, F.up.3, fun b hm => ⟨hm, fun o ho => by rw [hb b (Array.getElem?_eq_some_iff.1 ho).1]; exact ho⟩⟩
 refine hR γ w' _ ⟨fun id st hst => Nat.lt_of_lt_of_le (gh.ob id st hst) F.size, gh.inj, fun b hm => ⟨let ⟨⟨vs, e, fr, k1⟩, _⟩ := gh.im b hm; ⟨vs, e, fr, (U.im b hm).2 _ k1⟩, (gh.im b hm).2⟩, gh.gl.up U⟩ ⟨U, fun _ _ => rfl, fun b h1 _ => hb b h1, fun _ _ h1 h2 => absurd h2 (by omega), fun _ h _ => h, F.lp, F.size, F.os, F.tape, F.output, F.fz⟩ (eS _)
  (fun id c hid hc => HoldsO.mono U rfl (fun st hst => hb _ (gh.ob id st hst)) (hob id c hid hc)) hnx
end
def TabOk (P : Program) (g : Pos -> Pos) (t : T RF) : Prop := ∀ p rf, t.get p = some rf -> yM P (g p).ix rf
theorem TabOk.e {P : Program} {g : Pos -> Pos} : TabOk P g .e := fun p rf h => by rw [T.get_e] at h; cases h
theorem TabOk.n {P : Program} {g : Pos -> Pos} {l r : T RF} {v : Option RF} (hv : ∀ rf, v = some rf -> yM P (g .h).ix rf) (hl : TabOk P (fun p => g (.o p)) l) (hr : TabOk P (fun p => g (.i p)) r) : TabOk P g (.n l v r)
 | .h, rf, h => hv rf h
 | .o p, rf, h => hl p rf h
 | .i p, rf, h => hr p rf h
theorem TabOk.no {P : Program} {k : Nat} : ∀ rf, (none : Option RF) = some rf -> yM P k rf := fun _ h => by cases h
theorem TabOk.at {P : Program} {k : Nat} : ∀ rf, aA P k = some rf -> yM P k rf := fun rf h => by
 obtain ⟨fn, c, rs, _, _, _, _, rfl⟩ := BD h
 exact ⟨fun _ => h, (fun v hv => by cases hv), (fun m hm => by cases hm)⟩
def MemsOk (P : Program) (k : Nat) : List (List D × D) -> Prop
 | [] => True
 | m :: l => Ix P k m.1 m.2 /\ MemsOk P k l
theorem MemsOk.mem {P : Program} {k : Nat} : ∀ {l : List (List D × D)}, MemsOk P k l -> ∀ m ∈ l, Ix P k m.1 m.2
 | [], _, m, hm => by cases hm
 | a :: l, h, m, hm => by
   rcases List.mem_cons.1 hm with e | hm
   ·rw [e]; exact h.1
   ·exact MemsOk.mem h.2 m hm
def Zd : RF := ⟨0, .skip, [], some (.b true), []⟩
theorem TabOk.kn {P : Program} {FP : T RF} (hFP : FPok P FP) {n : Nat} {f : Pos} (h : uO P FP n f = true) : ∀ rf, some Zd = some rf -> yM P f.ix rf := fun rf he => by
 cases he
 exact ⟨(fun h => by cases h), (fun v hv => by cases hv; exact CJ hFP h), (fun m hm => by cases hm)⟩
theorem FPok.of {P : Program} {t : T RF} (h : TabOk P (fun p => p) t) : FPok P t := h
open Go.RowKit (Below Grown)
def Code.pre : Nat -> Code -> Code
 | k + 1, .seq a b => .seq a (Code.pre k b)
 | _, _ => .skip
def Code.suf : Nat -> Code -> Code
 | k + 1, .seq _ b => Code.suf k b
 | _, c => c
def kC (s : Pos) (b : Bool) (nx : Pos) : X := ⟨T.set s (.b b) .e, .e, nx, none⟩
section
variable {P : Program} {FP : T RF} {nt : Nat}
theorem OB (hFP : FPok P FP) : ∀ (k : Nat) {n : Nat} {c : Code} {x y Z : X} {e : Ex}, exec P FP n (aT P nt (Code.pre k c)) x = some (.normal, y) -> XOk P nt (Code.suf k c) y e Z -> XOk P nt c x e Z := by
 have triv : ∀ {n : Nat} {c : Code} {x y Z : X} {e : Ex}, exec P FP n (aT P nt .skip) x = some (.normal, y) -> XOk P nt c y e Z -> XOk P nt c x e Z := by
  intro n c x y Z e h h2
  cases n with
  | zero => cases h
  | succ n => cases h; exact h2
 intro k
 induction k with
 | zero => exact fun h h2 => triv h h2
 | succ k ih =>
   intro n c x y Z e h h2
   cases c with
   | seq a b =>
     cases n with
     | zero => cases h
     | succ n =>
       have h : BP (exec P FP n) (aT P nt a) (aT P nt (Code.pre k b)) x = some (.normal, y) := h
       unfold BP at h
       split at h
       ·rename_i y1 hy1
        exact ((uT hFP n).1 _ _ _ _ _ hy1).seq (ih h h2)
       ·rename_i hne
        exact absurd h (hne y)
   | _ => exact triv h h2
def KT (P : Program) (FP : T RF) (n nt : Nat) (c : Code) (x : X) (s : Pos) : Bool :=
 match exec P FP n (aT P nt c) x with
 | some (e, ⟨sl, _, _, none⟩) => match e, sl.get s with
   | .normal, some (.b b) => b
   | .ret, some (.b b) => b
   | _, _ => false
 | _ => false
theorem Mp (hFP : FPok P FP) {n : Nat} {c : Code} {x : X} {s : Pos} (h : KT P FP n nt c x s = true) : ∃ e Z, XOk P nt c x e Z /\ (e = .normal \/ e = .ret) /\ Z.sl.get s = some (.b true) := by
 unfold KT at h
 split at h
 ·rename_i e sl ob nx hy
  have X1 := (uT hFP n).1 _ _ _ _ _ hy
  split at h
  ·rename_i b hb
   rw [h] at hb
   exact ⟨_, _, X1, .inl rfl, hb⟩
  ·rename_i b hb
   rw [h] at hb
   exact ⟨_, _, X1, .inr rfl, hb⟩
  ·cases h
 ·cases h
end
open Go.RowKit (Below Grown)
def Wl (ms mo : T Unit) (r : Option (Ex × X)) : Option X :=
 match r with
 | some (.normal, ⟨sl, ob, nx, none⟩) => some ⟨rE ms sl, rE mo ob, nx, none⟩
 | _ => none
section
variable {P : Program} {FP : T RF} {nt : Nat}
theorem XOk.weakG {c : Code} {ms mo : T Unit} {sl : T D} {ob : T C} {nx : Pos} {Z : X} {e : Ex} (h : XOk P nt c ⟨rE ms sl, rE mo ob, nx, none⟩ e Z) : XOk P nt c ⟨sl, ob, nx, none⟩ e Z := by
 refine ⟨h.lg, h.nx, fun id hn => ?_, fun so hs ro γ a w hn g R n Q hQ => h.ok so hs ro γ a w hn g ⟨fun s d hs hd => R.sl s d hs (lM ms sl s hd), fun id c hid hc => R.ob id c hid (lM mo ob id hc), R.nx, R.gl⟩ n Q hQ⟩
 have : Z.lg = none := h.lg.none.1 rfl
 rw [this] at hn
 exact absurd trivial hn
theorem zX (hFP : FPok P FP) {n k : Nat} {c : Code} {x X1 Z : X} {ms mo : T Unit} {e : Ex} (h : Wl ms mo (exec P FP n (aT P nt (Code.pre k c)) x) = some X1) (h2 : XOk P nt (Code.suf k c) X1 e Z) : XOk P nt c x e Z := by
 unfold Wl at h
 split at h
 ·rename_i sl ob nx hy
  cases h
  exact OB hFP k hy h2.weakG
 ·cases h
end
open Go.RowKit (Below Grown)
section
variable {P : Program}
def TrueCall (P : Program) (f : Nat) : Prop := ∃ (ob : T C) (nx : Pos) (lg : Option (T Bool)), CallOk P f [] .e .h none (.b true) ob nx lg
theorem TrueCall.of_body {f : Nat} {fn : Func} {c : Code} {s : Pos} (hf : P.funcs[f]? = some fn) (hb : fn.body = some c) (hr : mR P fn.results.toList = some [.t s]) (hname : (fn.name == "runtime.NumGoroutine") = false)
 (h : ∃ e Z, XOk P fn.ntmps c ⟨.e, .e, .h, none⟩ e Z /\ (e = .normal \/ e = .ret) /\ Z.sl.get s = some (.b true)) : TrueCall P f := by
 obtain ⟨e, ⟨sl, ob, nx, lg⟩, X1, he, hs⟩ := h
 have hs : sl.get s = some (.b true) := hs
 obtain ⟨v, ob', nx', lg', h1, C⟩ := oR (ds := []) (k := fun v ob nx lg => some ⟨T.set .h v .e, ob, nx, lg⟩) (Z := ⟨T.set .h (.b true) .e, ob, nx, lg⟩) hf hb hr hname (Nat.zero_le _) (fun s d hd => .inl hd) he X1 (by
  simp only [results]
  rw [hs]
  rfl)
 have hv : v = .b true := by
  have h1 := (X.mk.inj (Option.some.inj h1)).1
  have := congrArg (fun t => T.get t .h) h1
  simp only [T.get_set_same, Option.some.injEq] at this
  exact this
 subst hv
 exact ⟨_, _, _, C⟩
theorem TrueCall.calls {f : Nat} (h : TrueCall P f) (w : World) (hL : CM w) : Calls P f #[] w fun e w' => e = .returned (.bool true) /\ Grown w w' :=
 let ⟨_, _, _, C⟩ := h
 Iq C w hL
theorem TrueCall.any {f : Nat} (h : TrueCall P f) (ob : T C) (nx : Pos) (lg : Option (T Bool)) : CallOk P f [] ob nx lg (.b true) ob nx lg := by
 obtain ⟨_, _, _, C⟩ := h
 refine ⟨LgLe.refl _, Nat.le_refl _, Keeps.refl _ _, fun so _ γ args w gh hargs hob hnx => ?_⟩
 have hargs : args = #[] := by
  have := (aR.1 hargs).1
  simp at this
  exact Array.eq_empty_of_size_eq_zero this.symm
 subst hargs
 obtain ⟨c1, c2⟩ := tF C w gh.gl.lr
 refine ⟨c1, fun ro m R hR => c2 ro m R fun γ' w' F => ?_⟩
 have hb : ∀ b, b < w.heap.size -> w'.heap[b]? = w.heap[b]? := fun b hb => F.blk b hb fun id st _ hst => absurd hst (Nat.not_lt_zero st)
 have U : Up γ γ w w' := ⟨fun _ => Nat.le_refl _, fun _ _ _ => rfl, F.up.3, fun b hm => ⟨hm, fun o ho => by rw [hb b (Array.getElem?_eq_some_iff.1 ho).1]; exact ho⟩⟩
 refine hR γ w' _ ⟨fun id st hst => Nat.lt_of_lt_of_le (gh.ob id st hst) F.size, gh.inj, fun b hm => ⟨let ⟨⟨vs, e, fr, k1⟩, _⟩ := gh.im b hm; ⟨vs, e, fr, (U.im b hm).2 _ k1⟩, (gh.im b hm).2⟩, gh.gl.up U⟩ ⟨U, fun _ _ => rfl, fun b h1 _ => hb b h1, fun _ _ h1 h2 => absurd h2 (by omega), fun _ h _ => h, F.lp, F.size, F.os, F.tape, F.output, F.fz⟩ (eS _)
  (fun id c hid hc => HoldsO.mono U rfl (fun st hst => hb _ (gh.ob id st hst)) (hob id c hid hc)) hnx
end
end Go.Ev
end
