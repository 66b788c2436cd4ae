import Derived.Test.YtjgbfnciedkafaaEvUJb
import Derived.Test.YtjgbfnciedkafaaEvUJ7
import Derived.Test.YtjgbfnciedkafaaEvUJs
set_option linter.all false
set_option maxHeartbeats 8000000
noncomputable section
namespace Go.Ev
open Go.Proofs
set_option maxRecDepth 100000
structure Bk where
 n : Int
 coin : Int
 box : Int
 ls : List Ln
 cs : List Ct
def mI (lo hi : Int) : List Int := (List.range (hi + 1 - lo).toNat).map fun k : Nat => lo + (k : Int)
theorem dA (lo hi : Int) : (mI lo hi).length = (hi + 1 - lo).toNat := by simp [mI]
theorem Af {lo hi : Int} {k : Nat} (h : k < (hi + 1 - lo).toNat) : (mI lo hi).getD k 0 = lo + (k : Int) := by simp [mI, List.getD, h]
theorem kO {lo hi h : Int} : h ∈ mI lo hi ↔ lo <= h /\ h <= hi := by
 unfold mI
 rw [List.mem_map]
 constructor
 ·rintro ⟨k, hk, rfl⟩
  have := List.mem_range.1 hk
  omega
 ·rintro ⟨h1, h2⟩
  exact ⟨(h - lo).toNat, List.mem_range.2 (by omega), by omega⟩
def sP (n : Int) (l : Ln) (a b : Int) : List Ln := (mI (kT l) (oM n l)).map fun c => ⟨a, b, c⟩
def sW (n : Int) (l : Ln) (a : Int) : List Ln := (mI (gN l) (nH n l)).flatMap fun b => sP n l a b
def nU (n : Int) (l : Ln) : List Ln := (mI (eM l) (nV l)).flatMap fun a => sW n l a
theorem iW {n : Int} {l x : Ln} : x ∈ nU n l ↔ Am n l x = true := by
 unfold nU sW sP Am
 rw [decide_eq_true_iff, List.mem_flatMap]
 constructor
 ·rintro ⟨a, ha, hx⟩
  obtain ⟨b, hb, hx⟩ := List.mem_flatMap.1 hx
  obtain ⟨c, hc, rfl⟩ := List.mem_map.1 hx
  have ha := kO.1 ha
  have hb := kO.1 hb
  have hc := kO.1 hc
  exact ⟨ha.1, ha.2, hb.1, hb.2, hc.1, hc.2⟩
 ·rintro ⟨h1, h2, h3, h4, h5, h6⟩
  exact ⟨x.k, kO.2 ⟨h1, h2⟩, List.mem_flatMap.2 ⟨x.c, kO.2 ⟨h3, h4⟩, List.mem_map.2 ⟨x.t, kO.2 ⟨h5, h6⟩, rfl⟩⟩⟩
def SameTo (i : Nat) (T T' : List Ln) : Prop := ∀ j, j < i -> T'.getD j default = T.getD j default
theorem SameTo.symm {i : Nat} {T T' : List Ln} (h : SameTo i T T') : SameTo i T' T := fun j hj => (h j hj).symm
theorem SameTo.le {i j : Nat} {T T' : List Ln} (h : SameTo i T T') (k : j <= i) : SameTo j T T' := fun q hq => h q (by omega)
theorem SameTo.app (T : List Ln) (l : Ln) : SameTo T.length T (T ++ [l]) := fun j hj => by
 simp [List.getD, List.getElem?_append_left hj]
theorem cG (T : List Ln) (l : Ln) : (T ++ [l]).getD T.length default = l := by simp [List.getD]
theorem SameTo.take (T : List Ln) (i : Nat) : SameTo i T (T.take i) := fun j hj => by
 simp [List.getD, List.getElem?_take_of_lt hj]
theorem iI {T T' : List Ln} (c : Int) : ∀ i, SameTo i T T' -> bK T' c i = bK T c i
 | 0, _ => rfl
 | i + 1, h => by
   have := iI c i (h.le (by omega))
   unfold bK
   rw [h i (by omega), this]
theorem iL {T T' : List Ln} (c : Int) : ∀ i, SameTo i T T' -> bY T' c i = bY T c i
 | 0, _ => rfl
 | i + 1, h => by
   have := iL c i (h.le (by omega))
   unfold bY
   rw [h i (by omega), this]
theorem xL {box coin : Int} {T T' : List Ln} : ∀ i, SameTo i T T' -> bZ box coin T' i = bZ box coin T i
 | 0, _ => rfl
 | i + 1, h => by
   have := xL (box := box) (coin := coin) i (h.le (by omega))
   unfold bZ
   rw [h i (by omega), this]
theorem wX {T T' : List Ln} : ∀ i, SameTo i T T' -> gT T' i = gT T i
 | 0, _ => rfl
 | i + 1, h => by
   have := wX i (h.le (by omega))
   unfold gT
   rw [h i (by omega), this, iI _ i (h.le (by omega)), iL _ i (h.le (by omega))]
theorem iX {box coin : Int} {T T' : List Ln} {i : Nat} (h : SameTo i T T') : fC box coin T' i = fC box coin T i := by
 unfold fC
 rw [xL i h, wX i h]
 simp only [iI _ i h, iL _ i h]
 cases i with
 | zero => rfl
 | succ i => simp only [h i (by omega)]
theorem rV {T T' : List Ln} {i : Nat} (h : SameTo (i + 1) T T') : dV T' i = dV T i := by
 unfold dV
 rw [h i (by omega), iI _ i (h.le (by omega)), iL _ i (h.le (by omega))]
def jW (B : Bk) (T : List Ln) : List (List Ln) := ((nU B.n (B.ls.getD T.length default)).filter fun l => dV (T ++ [l]) T.length).map fun l => T ++ [l]
def rT (B : Bk) (T : List Ln) : Bool := dU B.cs (fC B.box B.coin T T.length)
def cT (B : Bk) : Nat -> List Ln -> Bool
 | 0, T => rT B T
 | k + 1, T => rT B T && (jW B T).any (cT B k)
def hU (B : Bk) : Nat -> List Ln -> List (List Ln)
 | 0, T => bif cT B 0 T then [T] else []
 | k + 1, T => bif cT B (k + 1) T then (jW B T).flatMap (hU B k) else []
structure Ext (B : Bk) (k : Nat) (T X : List Ln) : Prop where
 pre : X.take T.length = T
 len : X.length = T.length + k
 st : ∀ i, T.length <= i -> i < X.length -> Am B.n (B.ls.getD i default) (X.getD i default) = true /\ dV X i = true
 rt : ∀ i, T.length <= i -> i <= X.length -> dU B.cs (fC B.box B.coin X i) = true
theorem Ext.same {B : Bk} {k : Nat} {T X : List Ln} (h : Ext B k T X) : SameTo T.length X T := by
 have := SameTo.take X T.length
 rw [h.pre] at this
 exact this
theorem tU {B : Bk} {T X : List Ln} : Ext B 0 T X ↔ X = T /\ rT B T = true := by
 constructor
 ·intro h
  have hx : X = T := by
   have := h.pre
   rw [List.take_of_length_le (by rw [h.len]; omega)] at this
   exact this
  subst hx
  exact ⟨rfl, h.rt _ (Nat.le_refl _) (Nat.le_refl _)⟩
 ·rintro ⟨rfl, h⟩
  refine ⟨List.take_length, rfl, fun i h1 h2 => by omega, fun i h1 h2 => ?_⟩
  rw [show i = X.length by omega]; exact h
theorem vM {B : Bk} {k : Nat} {T X : List Ln} : Ext B (k + 1) T X ↔ rT B T = true /\ ∃ T' ∈ jW B T, Ext B k T' X := by
 constructor
 ·intro h
  have hs := h.same
  have hlen := h.len
  refine ⟨?_, X.take (T.length + 1), ?_, ?_, ?_, ?_, ?_⟩
  ·have := h.rt _ (Nat.le_refl _) (by omega)
   rw [<- iX (T' := T) hs] at this
   exact this
  ·unfold jW
   have hlt : T.length < X.length := by omega
   obtain ⟨h1, h2⟩ := h.st _ (Nat.le_refl _) hlt
   have he : X.take (T.length + 1) = T ++ [X.getD T.length default] := by
    rw [aL (d := default) hlt, h.pre]
   refine List.mem_map.2 ⟨X.getD T.length default, List.mem_filter.2 ⟨iW.2 h1, ?_⟩, he.symm⟩
   have : SameTo (T.length + 1) X (T ++ [X.getD T.length default]) := by rw [<- he]; exact SameTo.take _ _
   rw [<- h2]
   exact rV this
  ·rw [List.length_take, Nat.min_eq_left (by omega)]
  ·rw [List.length_take, Nat.min_eq_left (by omega)]; omega
  ·intro i h1 h2
   rw [List.length_take, Nat.min_eq_left (by omega)] at h1
   exact h.st i (by omega) h2
  ·intro i h1 h2
   rw [List.length_take, Nat.min_eq_left (by omega)] at h1
   exact h.rt i (by omega) h2
 ·rintro ⟨hr, T', hT, h⟩
  unfold jW at hT
  obtain ⟨l, hl, rfl⟩ := List.mem_map.1 hT
  obtain ⟨hl1, hl2⟩ := List.mem_filter.1 hl
  have hsame := h.same
  have hlen := h.len
  have hla : (T ++ [l]).length = T.length + 1 := by simp
  rw [hla] at hlen hsame
  have hsT : SameTo T.length X T := fun j hj => by
   rw [<- hsame j (by omega), SameTo.app T l j hj]
  refine ⟨?_, by omega, fun i h1 h2 => ?_, fun i h1 h2 => ?_⟩
  ·have := h.pre
   rw [hla] at this
   have h2 := congrArg (List.take T.length) this
   rw [List.take_take, Nat.min_eq_left (by omega), List.take_left'] at h2
   ·exact h2
   ·rfl
  ·by_cases e : i = T.length
   ·subst e
    have hx : X.getD T.length default = l := by rw [<- hsame _ (by omega), cG]
    refine ⟨by rw [hx]; exact iW.1 hl1, ?_⟩
    exact (rV hsame).symm.trans hl2
   ·exact h.st i (by rw [hla]; omega) h2
  ·by_cases e : i = T.length
   ·subst e
    rw [<- iX (T' := T) hsT]
    exact hr
   ·exact h.rt i (by rw [hla]; omega) h2
theorem pL {B : Bk} : ∀ {k : Nat} {T : List Ln}, cT B k T = true ↔ ∃ X, Ext B k T X
 | 0, T => by
   show rT B T = true ↔ _
   constructor
   ·intro h; exact ⟨T, tU.2 ⟨rfl, h⟩⟩
   ·rintro ⟨X, h⟩; exact (tU.1 h).2
 | k + 1, T => by
   show (rT B T && (jW B T).any (cT B k)) = true ↔ _
   rw [Bool.and_eq_true, List.any_eq_true]
   constructor
   ·rintro ⟨h1, T', h2, h3⟩
    obtain ⟨X, h4⟩ := pL.1 h3
    exact ⟨X, vM.2 ⟨h1, T', h2, h4⟩⟩
   ·rintro ⟨X, h⟩
    obtain ⟨h1, T', h2, h3⟩ := vM.1 h
    exact ⟨h1, T', h2, pL.2 ⟨X, h3⟩⟩
theorem iF {B : Bk} : ∀ {k : Nat} {T X : List Ln}, X ∈ hU B k T ↔ Ext B k T X
 | 0, T, X => by
   unfold hU
   rw [tU]
   show X ∈ (bif rT B T then [T] else []) ↔ _
   cases h : rT B T with
   | true => simp
   | false => simp
 | k + 1, T, X => by
   unfold hU
   cases h : cT B (k + 1) T with
   | false =>
     simp only [cond_false, List.not_mem_nil, false_iff]
     intro hx
     have := pL.2 ⟨X, hx⟩
     rw [h] at this; cases this
   | true =>
     simp only [cond_true]
     rw [List.mem_flatMap, vM]
     have hr : rT B T = true := by
      have h : (rT B T && (jW B T).any (cT B k)) = true := h
      rw [Bool.and_eq_true] at h
      exact h.1
     constructor
     ·rintro ⟨T', h1, h2⟩; exact ⟨hr, T', h1, iF.1 h2⟩
     ·rintro ⟨_, T', h1, h2⟩; exact ⟨T', h1, iF.2 h2⟩
def okT (B : Bk) (T : List Ln) : Prop := ∀ i, i < T.length -> Am B.n (B.ls.getD i default) (T.getD i default) = true /\ dV T i = true
theorem okT.nil (B : Bk) : okT B [] := fun i h => absurd h (Nat.not_lt_zero _)
theorem okT.step {B : Bk} {T T' : List Ln} (h : okT B T) (hT : T' ∈ jW B T) : okT B T' /\ T'.length = T.length + 1 := by
 unfold jW at hT
 obtain ⟨l, hl, rfl⟩ := List.mem_map.1 hT
 obtain ⟨hl1, hl2⟩ := List.mem_filter.1 hl
 refine ⟨fun i hi => ?_, by simp⟩
 rw [List.length_append, List.length_singleton] at hi
 by_cases e : i = T.length
 ·subst e
  rw [cG]
  exact ⟨iW.1 hl1, hl2⟩
 ·have hlt : i < T.length := by omega
  rw [SameTo.app T l i hlt, rV ((SameTo.app T l).le (by omega))]
  exact h i hlt
def Al (T : List Ln) (q : Nat) : Bool := if q < 4 then decide (0 <= bK T (q : Int) T.length) else decide (0 <= bY T ((q - 4 : Nat) : Int) T.length)
def FM (b : Bool) : Int := bif b then 1 else 0
def jC (n : Int) : Int := if 0 <= n then 1 else 0
def Ab (T : List Ln) (i : Nat) : Int := jC (bK T 0 i) + jC (bK T 1 i) + jC (bK T 2 i) + jC (bK T 3 i)
def ID (T : List Ln) (i : Nat) : Int := jC (bY T 0 i) + jC (bY T 1 i) + jC (bY T 2 i) + jC (bY T 3 i)
theorem Nd (n : Int) : jC n = FM (decide (0 <= n)) := by
 unfold jC FM
 by_cases h : 0 <= n <;> simp [h]
theorem Bz (f : Int -> Int) (c k : Int) (i : Nat) (hc : 0 <= c /\ c <= 3) (hk : k = 1 \/ k = 2) (h : decide (0 <= f c) = decide (k = 2)) :
 jC (if c = 0 then (if k = 1 then (i : Int) else -1) else f 0) + jC (if c = 1 then (if k = 1 then (i : Int) else -1) else f 1) + jC (if c = 2 then (if k = 1 then (i : Int) else -1) else f 2) + jC (if c = 3 then (if k = 1 then (i : Int) else -1) else f 3) = if k = 1 then jC (f 0) + jC (f 1) + jC (f 2) + jC (f 3) + 1 else jC (f 0) + jC (f 1) + jC (f 2) + jC (f 3) - 1 := by
 have h0 : jC (i : Int) = 1 := if_pos (by omega)
 have h1 : jC (-1) = 0 := if_neg (by omega)
 have hf : jC (f c) = if k = 1 then 0 else 1 := by
  rw [Nd, h]
  rcases hk with rfl | rfl <;> rfl
 have : c = 0 \/ c = 1 \/ c = 2 \/ c = 3 := by omega
 rcases this with rfl | rfl | rfl | rfl <;> rcases hk with rfl | rfl <;> simp [h0, h1] at hf ⊢ <;> omega
structure VB (B : Bk) : Prop where
 n : 1 <= B.n /\ B.n <= 4
 coin : 1 <= B.coin /\ B.coin <= 99
 box : 0 <= B.box /\ B.box <= 999
 len : B.ls.length <= 8
 clen : B.cs.length <= 4
 ls : B.ls.all (cB B.n) = true
 cs : ∀ c ∈ B.cs, 0 <= c.a /\ c.a <= B.ls.length
 many : eE B.n B.ls <= 4096
def B5 (n coin box : Int) (ls : List Ln) (cs : List Ct) : Bk := ⟨n, coin, box, ls, cs⟩
theorem VB.of {n coin box : Int} {ls : List Ln} {cs : List Ct} (h : aS n coin box ls cs = 0) : VB (B5 n coin box ls cs) := by
 obtain ⟨f1, f2, f3, f4⟩ := nI h
 unfold kU at f3
 simp only [Bool.and_eq_true] at f3
 obtain ⟨v1, v2, v3, v4, v5⟩ := f3
 exact ⟨aP.1 v1, aP.1 v2, aP.1 v3, f1, f2, v4, fun c hc => by
  have := List.all_eq_true.1 v5 c hc
  unfold rE at this
  rw [Bool.and_eq_true] at this
  exact aP.1 this.1, f4⟩
theorem VB.ln {B : Bk} (V : VB B) {i : Nat} (h : i < B.ls.length) : (0 <= (B.ls.getD i default).k /\ (B.ls.getD i default).k <= 2) /\ (-1 <= (B.ls.getD i default).c /\ (B.ls.getD i default).c <= 3) /\ (-1 <= (B.ls.getD i default).t /\ (B.ls.getD i default).t <= 3) := by
 have hok := List.all_eq_true.1 V.ls _ (bV (d := default) h)
 unfold cB at hok
 simp only [Bool.and_eq_true, aP] at hok
 have := V.n
 omega
theorem VB.rd {B : Bk} (V : VB B) {i : Nat} (h : i < B.ls.length) {x : Ln} (hx : Am B.n (B.ls.getD i default) x = true) : (x.k = 1 \/ x.k = 2) /\ (0 <= x.c /\ x.c <= 3) /\ (0 <= x.t /\ x.t <= 3) := by
 obtain ⟨h1, h2, h3⟩ := V.ln h
 exact Hw V.n h1 h2 h3 hx
theorem EE (T : List Ln) (c : Int) (i : Nat) : bK T c (i + 1) = if (T.getD i default).c = c then (if (T.getD i default).k = 1 then (i : Int) else -1) else bK T c i := rfl
theorem FA (T : List Ln) (c : Int) (i : Nat) : bY T c (i + 1) = if (T.getD i default).t = c then (if (T.getD i default).k = 1 then (i : Int) else -1) else bY T c i := rfl
theorem sZ {B : Bk} (V : VB B) {T : List Ln} (h : okT B T) (hl : T.length <= B.ls.length) : ∀ i, i <= T.length -> bZ B.box B.coin T i = B.box + B.coin * Ab T i /\ Ab T i = ID T i
 | 0, _ => by
   refine ⟨?_, rfl⟩
   show B.box = B.box + B.coin * 0
   omega
 | i + 1, hi => by
   obtain ⟨ih1, ih2⟩ := sZ V h hl i (by omega)
   obtain ⟨h1, h2⟩ := h i (by omega)
   obtain ⟨hk, hc, ht⟩ := V.rd (by omega) h1
   unfold dV at h2
   rw [Bool.and_eq_true, beq_iff_eq, beq_iff_eq] at h2
   obtain ⟨p1, p2⟩ := h2
   have hm : bZ B.box B.coin T (i + 1) = if (T.getD i default).k = 1 then bZ B.box B.coin T i + B.coin else bZ B.box B.coin T i - B.coin := rfl
   have hO : Ab T (i + 1) = if (T.getD i default).k = 1 then Ab T i + 1 else Ab T i - 1 := Bz (fun c => bK T c i) _ _ i hc hk p1
   have hP : ID T (i + 1) = if (T.getD i default).k = 1 then ID T i + 1 else ID T i - 1 := Bz (fun c => bY T c i) _ _ i ht hk p2
   rw [hm, hO, hP, ih1, ih2]
   refine ⟨?_, rfl⟩
   split
   ·rw [Int.mul_add]; omega
   ·rw [Int.mul_sub]; omega
theorem Ee {T : List Ln} {l : Ln} (hc : 0 <= l.c /\ l.c <= 3) (ht : 0 <= l.t /\ l.t <= 3) (q : Nat) : Al (T ++ [l]) q = if q < 4 then (if l.c = (q : Int) then decide (l.k = 1) else Al T q) else (if l.t = ((q - 4 : Nat) : Int) then decide (l.k = 1) else Al T q) := by
 unfold Al
 rw [List.length_append, List.length_singleton, EE, FA, cG, iI _ _ (SameTo.app T l), iL _ _ (SameTo.app T l)]
 by_cases hq : q < 4
 ·simp only [if_pos hq]
  by_cases h1 : l.c = (q : Int)
  ·rw [if_pos h1, if_pos h1]
   by_cases h2 : l.k = 1
   ·rw [if_pos h2]; simp [h2]
   ·rw [if_neg h2]; simp [h2]
  ·rw [if_neg h1, if_neg h1]
 ·simp only [if_neg hq]
  by_cases h1 : l.t = ((q - 4 : Nat) : Int)
  ·rw [if_pos h1, if_pos h1]
   by_cases h2 : l.k = 1
   ·rw [if_pos h2]; simp [h2]
   ·rw [if_neg h2]; simp [h2]
  ·rw [if_neg h1, if_neg h1]
theorem DO {T : List Ln} {l : Ln} (hc : 0 <= l.c /\ l.c <= 3) (ht : 0 <= l.t /\ l.t <= 3) : dV (T ++ [l]) T.length = ((Al T l.c.toNat == decide (l.k = 2)) && (Al T (4 + l.t.toNat) == decide (l.k = 2))) := by
 unfold dV Al
 rw [cG, iI _ _ (SameTo.app T l), iL _ _ (SameTo.app T l), if_pos (by omega), if_neg (by omega)]
 rw [show ((l.c.toNat : Nat) : Int) = l.c by omega, show ((4 + l.t.toNat - 4 : Nat) : Int) = l.t by omega]
theorem IF (T : List Ln) : Ab T T.length = FM (Al T 0) + FM (Al T 1) + FM (Al T 2) + FM (Al T 3) := by
 unfold Ab
 simp only [Nd]
 rfl
theorem MD {B : Bk} (V : VB B) {T T' : List Ln} (h : okT B T) (h' : okT B T') (hl : T'.length = T.length) (hb : T.length <= B.ls.length) (hf : ∀ q, q < 8 -> Al T' q = Al T q) : rT B T' = rT B T := by
 have e1 := (sZ V h hb T.length (Nat.le_refl _)).1
 have e2 := (sZ V h' (by omega) T'.length (Nat.le_refl _)).1
 have hm : bZ B.box B.coin T' T'.length = bZ B.box B.coin T T.length := by
  rw [e1, e2, IF, IF, hf 0 (by omega), hf 1 (by omega), hf 2 (by omega), hf 3 (by omega)]
 show dU B.cs (fC B.box B.coin T' T'.length) = dU B.cs (fC B.box B.coin T T.length)
 unfold dU
 show (B.cs.all fun c => !decide (c.a = ((T'.length : Nat) : Int)) || gS (bZ B.box B.coin T' T'.length) c.lo c.hi) = B.cs.all fun c => !decide (c.a = ((T.length : Nat) : Int)) || gS (bZ B.box B.coin T T.length) c.lo c.hi
 rw [hm, hl]
theorem If {B : Bk} (V : VB B) : ∀ (k : Nat) {T T' : List Ln}, okT B T -> okT B T' -> T'.length = T.length -> T.length + k = B.ls.length -> (∀ q, q < 8 -> Al T' q = Al T q) -> cT B k T' = cT B k T
 | 0, T, T', h, h', hl, hk, hf => MD V h h' hl (by omega) hf
 | k + 1, T, T', h, h', hl, hk, hf => by
   have hr := MD V h h' hl (by omega) hf
   show (rT B T' && (jW B T').any (cT B k)) = (rT B T && (jW B T).any (cT B k))
   rw [hr]
   congr 1
   have key : ∀ l ∈ nU B.n (B.ls.getD T.length default), (dV (T' ++ [l]) T'.length = dV (T ++ [l]) T.length) /\ (dV (T ++ [l]) T.length = true -> cT B k (T' ++ [l]) = cT B k (T ++ [l])) := fun l hl' => by
    obtain ⟨_, hc, ht⟩ := V.rd (by omega) (iW.1 hl')
    have hp : dV (T' ++ [l]) T'.length = dV (T ++ [l]) T.length := by rw [DO hc ht, DO hc ht, hf _ (by omega), hf _ (by omega)]
    refine ⟨hp, fun hq => If V k ?_ ?_ (by simp [hl]) (by simp; omega) (fun q hq => by rw [Ee hc ht, Ee hc ht, hf q hq])⟩
    ·exact (h.step (List.mem_map.2 ⟨l, List.mem_filter.2 ⟨hl', hq⟩, rfl⟩)).1
    ·exact (h'.step (List.mem_map.2 ⟨l, List.mem_filter.2 ⟨by rw [hl]; exact hl', hp.trans hq⟩, rfl⟩)).1
   rw [Bool.eq_iff_iff, List.any_eq_true, List.any_eq_true]
   unfold jW
   rw [hl]
   constructor
   ·rintro ⟨x, hx, hc⟩
    obtain ⟨l, hl', rfl⟩ := List.mem_map.1 hx
    obtain ⟨h1, h2⟩ := List.mem_filter.1 hl'
    have h2 : dV (T' ++ [l]) T.length = true := h2
    rw [<- hl] at h2
    obtain ⟨k1, k2⟩ := key l h1
    rw [k1] at h2
    exact ⟨T ++ [l], List.mem_map.2 ⟨l, List.mem_filter.2 ⟨h1, h2⟩, rfl⟩, by rw [<- k2 h2]; exact hc⟩
   ·rintro ⟨x, hx, hc⟩
    obtain ⟨l, hl', rfl⟩ := List.mem_map.1 hx
    obtain ⟨h1, h2⟩ := List.mem_filter.1 hl'
    have h2 : dV (T ++ [l]) T.length = true := h2
    obtain ⟨k1, k2⟩ := key l h1
    refine ⟨T' ++ [l], List.mem_map.2 ⟨l, List.mem_filter.2 ⟨h1, ?_⟩, rfl⟩, by rw [k2 h2]; exact hc⟩
    show dV (T' ++ [l]) T.length = true
    rw [<- hl, k1, h2]
theorem Ho {B : Bk} (V : VB B) {X : List Ln} : Ext B B.ls.length [] X ↔ vL B.n B.coin B.box B.ls B.cs X = true := by
 have hfr := tY (T := X) V.n V.ls
 have hfit : vL B.n B.coin B.box B.ls B.cs X = (cI B.n B.ls X && yG B.box B.coin B.cs X) := by
  unfold vL
  rw [hfr, Bool.and_assoc]
 have hright : ∀ (hl : X.length = B.ls.length), (Rt (vP B.box B.coin X X.length) (X.length + 1)).all (dU B.cs) = yG B.box B.coin B.cs X := fun hl => ED fun c hc => by
  have := V.cs c hc
  omega
 rw [hfit, Bool.and_eq_true]
 constructor
 ·intro h
  have hl : X.length = B.ls.length := by have := h.len; simpa using this
  refine ⟨?_, ?_⟩
  ·unfold cI
   rw [Bool.and_eq_true, decide_eq_true_iff, List.all_eq_true]
   refine ⟨hl, fun q hq => ?_⟩
   have hq := List.mem_range.1 hq
   obtain ⟨h1, h2⟩ := h.st q (Nat.zero_le _) hq
   rw [h1, h2]; rfl
  ·rw [<- hright hl, List.all_eq_true]
   intro m hm
   unfold Rt at hm
   obtain ⟨q, hq, rfl⟩ := List.mem_map.1 hm
   have hq := List.mem_range.1 hq
   rw [oP (by omega)]
   exact h.rt q (Nat.zero_le _) (by omega)
 ·rintro ⟨h1, h2⟩
  unfold cI at h1
  rw [Bool.and_eq_true, decide_eq_true_iff, List.all_eq_true] at h1
  obtain ⟨hl, h1⟩ := h1
  refine ⟨rfl, by simpa using hl, fun i _ hi => ?_, fun i _ hi => ?_⟩
  ·have := h1 i (List.mem_range.2 hi)
   rw [Bool.and_eq_true] at this
   exact this
  ·rw [<- hright hl, List.all_eq_true] at h2
   have := h2 (vP B.box B.coin X X.length i) (List.mem_map.2 ⟨i, List.mem_range.2 (by omega), rfl⟩)
   rw [oP (by omega)] at this
   exact this
open Go.RowKit (Below Grown)
def Cv (γ γ' : Gh) (w : World) (d d' : D) : Prop := ∀ v, DV γ w d v -> DV γ' w d' v
def CvL (γ γ' : Gh) (w : World) (ds ds' : List D) : Prop := ∀ vs, DVL γ w ds vs -> DVL γ' w ds' vs
section
variable {γ γ' : Gh} {w : World}
theorem CvL.nil : CvL γ γ' w [] [] := fun vs h => by unfold DVL at h ⊢; exact h
theorem CvL.cons {d d' : D} {ds ds' : List D} (h : Cv γ γ' w d d') (k : CvL γ γ' w ds ds') : CvL γ γ' w (d :: ds) (d' :: ds') := fun vs H => by
 unfold DVL at H ⊢
 obtain ⟨v, r, h1, h2, h3⟩ := H
 exact ⟨v, r, h1, h v h2, k r h3⟩
theorem CvL.app {a a' b b' : List D} (h : CvL γ γ' w a a') (hl : a.length = a'.length) (k : CvL γ γ' w b b') : CvL γ γ' w (a ++ b) (a' ++ b') := fun vs H => by
 obtain ⟨l1, e1⟩ := aN.1 H
 have hv : vs = vs.take a.length ++ vs.drop a.length := (List.take_append_drop _ _).symm
 have t1 := H.take a.length
 have t2 := H.drop a.length
 rw [List.take_left'] at t1 <;> try rfl
 rw [List.drop_left'] at t2 <;> try rfl
 rw [hv]
 exact DVL.append (h _ t1) (k _ t2)
theorem Cv.pu (him : ∀ b, γ.im b -> γ'.im b) {d : D} (h : Pu d) : Cv γ γ' w d d := fun v H => DV.pu him d v h H
theorem CvL.pu (him : ∀ b, γ.im b -> γ'.im b) {ds : List D} (h : aO ds) : CvL γ γ' w ds ds := fun v H => DVL.pu him ds v h H
theorem Cv.any {d : D} : Cv γ γ' w d .any := fun v _ => by unfold DV; trivial
theorem Cv.ag {ds ds' : List D} (h : CvL γ γ' w ds ds') : Cv γ γ' w (.ag ds) (.ag ds') := fun v H => by
 unfold DV at H ⊢
 obtain ⟨vs, h1, h2, h3⟩ := H
 exact ⟨vs, h1, h _ h2, h3⟩
theorem Cv.tp {ds ds' : List D} (h : CvL γ γ' w ds ds') : Cv γ γ' w (.tp ds) (.tp ds') := fun v H => by
 unfold DV at H ⊢
 obtain ⟨vs, h1, h2⟩ := H
 exact ⟨vs, h1, h _ h2⟩
theorem Cv.fn {f : Pos} {x x' y y' : List D} (h : CvL γ γ' w x x') (k : CvL γ γ' w y y') : Cv γ γ' w (.fn f x y) (.fn f x' y') := fun v H => by
 unfold DV at H ⊢
 obtain ⟨vx, vy, h1, h2, h3⟩ := H
 exact ⟨vx, vy, h1, h _ h2, k _ h3⟩
end
theorem CallOk.sub {P : Program} {f : Nat} {ds ds' : List D} {ob ob' : T C} {nx nx' : Pos} {lg lg' : Option (T Bool)} {v : D} (h : CallOk P f ds' ob nx lg v ob' nx' lg') (k : ∀ γ w, CvL γ γ w ds ds') : CallOk P f ds ob nx lg v ob' nx' lg' :=
 ⟨h.hl, h.hx, h.hk, fun so hs γ args w gh ha ho hn => h.ok so hs γ args w gh (k γ w _ ha) ho hn⟩
theorem PureF.sub {P : Program} {f : Nat} {ds ds' : List D} {v : D} (h : PureF P f ds' v) (k : ∀ γ w, CvL γ γ w ds ds') : PureF P f ds v := fun ob nx lg => (h ob nx lg).sub k
def Fq (id : Pos) (γ : Gh) : Gh := jD (.o .h) (fun _ => id) γ
def JU (id : Pos) (γ γ' : Gh) : Gh := vR (lS id) γ γ'
theorem Cv.mpI {γ : Gh} {w : World} {id : Pos} : Cv γ (Fq id γ) w (.mp id) (.mp .h) := fun u h => Sy h
theorem Cv.mpO {γ γ' : Gh} {w : World} {id : Pos} : Cv γ' (JU id γ γ') w (.mp .h) (.mp id) := fun u h => by
 unfold DV at h ⊢
 show 0 < (vR (lS id) γ γ').cur id /\ u = .map (some ((vR (lS id) γ γ').β id 0).1)
 rw [eN (gK id), gX (gK id)]
 exact h
theorem jF {id : Pos} {γ : Gh} : ∀ b, γ.im b -> (Fq id γ).im b := fun _ h => h
theorem qV {id : Pos} {γ γ' : Gh} : ∀ b, γ'.im b -> (JU id γ γ').im b := fun _ h => h
theorem CallOk.oneG {P : Program} {f : Nat} {es es' : List (D × D)} {ds ds' : List D} {v v' : D} {ob' : T C} (h : CallOk P f ds (.n .e (some (.map es)) .e) (.o .h) none v ob' (.o .h) none) (hob' : ob'.get .h = some (.map es')) (hp : ∀ e ∈ es, Pu e.1 /\ Pu e.2) (hp' : ∀ e ∈ es', Pu e.1 /\ Pu e.2)
 {id : Pos} {ob : T C} {nx : Pos} {lg : Option (T Bool)} (hid : ob.get id = some (.map es)) (hlt : id.nat < nx.nat) (hd : ∀ γ w, CvL γ (Fq id γ) w ds' ds) (hv : ∀ γ γ' w, Cv γ' (JU id γ γ') w v v') : CallOk P f ds' ob nx lg v' (T.set id (.map es') ob) nx (HH lg id) := by
 have hw := GU lg id
 refine ⟨BQ lg id, Nat.le_refl _, fun j hn => ?_, fun so hs γ args w gh hargs hob hnx => ?_⟩
 ·by_cases e : j = id
  ·subst e; exact absurd hw hn
  ·exact T.get_set_ne e _ _
 have hso : so id := hs id hw.tchd
 have h1 : Pos.h.nat < (Pos.o .h).nat := by decide
 have R := Ren.one id
 have him := lA (nx := .o .h) (ρ := fun _ => id) (γ := γ)
 obtain ⟨c1, c2⟩ := h.ok (fun _ => True) (fun _ _ => trivial) (jD (.o .h) (fun _ => id) γ) args w (pD R gh) (hd γ w _ hargs) (fun j c _ hc => by
  cases j with
  | h =>
    rw [T.get_h] at hc
    cases hc
    obtain ⟨q1, en, cl, q2, q3, q4⟩ := hob id _ hso hid
    refine ⟨(eH h1).trans q1, en, cl, q2, q3, fun i e f he hf => ?_⟩
    obtain ⟨k1, k2⟩ := hp e (List.mem_of_getElem? he)
    exact ⟨DV.pu him _ _ k1 (q4 i e f he hf).1, DV.pu him _ _ k2 (q4 i e f he hf).2⟩
  | o p => rw [T.get_o, T.get_e] at hc; cases hc
  | i p => rw [T.get_i, T.get_e] at hc; cases hc) (fun j _ hj => iJ (Nat.not_lt.2 hj))
 refine ⟨c1, fun ro m Q' hQ' => c2 ro m Q' fun γ' w' u gh' F hu ho hn => ?_⟩
 have hWid : ∀ i j, lS id i = some j -> wrtn (HH lg id) i := fun i j h => by
  by_cases e : i = id
  ·subst e; exact hw
  ·rw [gJ e] at h; cases h
 have him' := yS (τ := lS id) (γ := γ) (γ' := γ')
 refine hQ' (vR (lS id) γ γ') w' u (Ah R gh gh' F) (zY R hWid F) (hv γ γ' w' u hu) (fun i c hi hc => ?_) (fun i hi hle => ?_)
 ·by_cases e : i = id
  ·subst e
   rw [T.get_set_same] at hc
   cases hc
   obtain ⟨q1, en, cl, q2, q3, q4⟩ := ho .h _ trivial hob'
   refine ⟨(eN (gK i)).trans q1, en, cl, by rw [gX (gK i)]; exact q2, q3, fun j e f he hf => ?_⟩
   obtain ⟨k1, k2⟩ := hp' e (List.mem_of_getElem? he)
   exact ⟨DV.pu him' _ _ k1 (q4 j e f he hf).1, DV.pu him' _ _ k2 (q4 j e f he hf).2⟩
  ·rw [T.get_set_ne e _ _] at hc
   exact qF R gh F (gJ e) (hob i c hi hc)
 ·have e : i ≠ id := fun e => by subst e; omega
  rw [dM (gJ e)]
  exact hnx i hi hle
theorem CallOk.newG {P : Program} {f : Nat} {es' : List (D × D)} {ds : List D} {v v' : D} {ob' : T C} (h : CallOk P f ds .e .h none v ob' (.o .h) none) (hob' : ob'.get .h = some (.map es')) (hp' : ∀ e ∈ es', Pu e.1 /\ Pu e.2) (hds : aO ds)
 {ob : T C} {nx : Pos} {lg : Option (T Bool)} (hv : ∀ γ γ' w, Cv γ' (JU nx γ γ') w v v') : CallOk P f ds ob nx lg v' (T.set nx (.map es') ob) nx.succ (HH lg nx) := by
 have hw := GU lg nx
 refine ⟨BQ lg nx, by rw [Pos.succ_nat]; omega, fun j hn => ?_, fun so hs γ args w gh hargs hob hnx => ?_⟩
 ·by_cases e : j = nx
  ·subst e; exact absurd hw hn
  ·exact T.get_set_ne e _ _
 have hso : so nx := hs nx hw.tchd
 have h1 : Pos.h.nat < (Pos.o .h).nat := by decide
 have R := Ren.one nx
 have him := lA (nx := .o .h) (ρ := fun _ => nx) (γ := γ)
 obtain ⟨c1, c2⟩ := h.ok (fun _ => True) (fun _ _ => trivial) (jD (.o .h) (fun _ => nx) γ) args w (pD R gh) (DVL.pu him _ _ hds hargs) (fun j c _ hc => by rw [T.get_e] at hc; cases hc) (fun j _ hj => by
  by_cases hj1 : j.nat < (Pos.o .h).nat
  ·rw [eH hj1]; exact hnx nx hso (Nat.le_refl _)
  ·exact iJ hj1)
 refine ⟨c1, fun ro m Q' hQ' => c2 ro m Q' fun γ' w' u gh' F hu ho hn => ?_⟩
 have hWid : ∀ i j, lS nx i = some j -> wrtn (HH lg nx) i := fun i j h => by
  by_cases e : i = nx
  ·subst e; exact hw
  ·rw [gJ e] at h; cases h
 have him' := yS (τ := lS nx) (γ := γ) (γ' := γ')
 refine hQ' (vR (lS nx) γ γ') w' u (Ah R gh gh' F) (zY R hWid F) (hv γ γ' w' u hu) (fun i c hi hc => ?_) (fun i hi hle => ?_)
 ·by_cases e : i = nx
  ·subst e
   rw [T.get_set_same] at hc
   cases hc
   obtain ⟨q1, en, cl, q2, q3, q4⟩ := ho .h _ trivial hob'
   refine ⟨(eN (gK i)).trans q1, en, cl, by rw [gX (gK i)]; exact q2, q3, fun j e f he hf => ?_⟩
   obtain ⟨k1, k2⟩ := hp' e (List.mem_of_getElem? he)
   exact ⟨DV.pu him' _ _ k1 (q4 j e f he hf).1, DV.pu him' _ _ k2 (q4 j e f he hf).2⟩
  ·rw [T.get_set_ne e _ _] at hc
   exact qF R gh F (gJ e) (hob i c hi hc)
 ·have e : i ≠ nx := fun e => by subst e; rw [Pos.succ_nat] at hle; omega
  rw [dM (gJ e)]
  exact hnx i hi (by rw [Pos.succ_nat] at hle; omega)
theorem WCall.of {P : Program} {f : Nat} {ds : List D} {d : Option Pos} {sl : T D} {ob ob2 : T C} {nx nx2 : Pos} {lg lg2 : Option (T Bool)} {K : X -> Prop} {v : D} (h : CallOk P f ds ob nx lg v ob2 nx2 lg2) (k : kW sl ob2 nx2 lg2 d K v) : WCall P f ds d ⟨sl, ob, nx, lg⟩ K := by
 cases d with
 | none => exact ⟨v, _, _, _, _, h, rfl, k⟩
 | some d =>
   obtain ⟨h1, h2⟩ := aT k
   exact ⟨v, _, _, _, _, h, h1, h2⟩
mutual
theorem Kp.up {n m : Nat} (h : n <= m) : ∀ d : D, Kp n d -> Kp m d
 | .pt _ _ _, k => by unfold Kp at k ⊢; omega
 | .yl _, k => by unfold Kp at k ⊢; omega
 | .sl _ _ _ _ _, k => by unfold Kp at k ⊢; omega
 | .mp _, k => by unfold Kp at k ⊢; omega
 | .fn _ x y, k => by unfold Kp at k ⊢; exact ⟨KpL.up h x k.1, KpL.up h y k.2⟩
 | .ag cs, k => by unfold Kp at k ⊢; exact KpL.up h cs k
 | .tp cs, k => by unfold Kp at k ⊢; exact KpL.up h cs k
 | .any, k => by unfold Kp at k ⊢; exact k
 | .b _, k => by unfold Kp at k ⊢; exact k
 | .i _ _, k => by unfold Kp at k ⊢; exact k
 | .s _, k => by unfold Kp at k ⊢; exact k
 | .np, k => by unfold Kp at k ⊢; exact k
 | .nf, k => by unfold Kp at k ⊢; exact k
 | .ni, k => by unfold Kp at k ⊢; exact k
 | .nm, k => by unfold Kp at k ⊢; exact k
 | .ns, k => by unfold Kp at k ⊢; exact k
 | .em, k => by unfold Kp at k ⊢; exact k
 | .ifc _ _, k => by unfold Kp at k ⊢; exact k
 | .lst _ _, k => by unfold Kp at k ⊢; exact k
 | .pl _ _, k => by unfold Kp at k ⊢; exact k
theorem KpL.up {n m : Nat} (h : n <= m) : ∀ ds : List D, KpL n ds -> KpL m ds
 | [], k => by unfold KpL at k ⊢; exact k
 | d :: ds, k => by unfold KpL at k ⊢; exact ⟨Kp.up h d k.1, KpL.up h ds k.2⟩
end
theorem KpC.up {n m : Nat} (h : n <= m) : ∀ {c : C}, KpC n c -> KpC m c
 | .cells _ _ _, k => fun c hc => Kp.up h _ (k c hc)
 | .lp _ _ _ _ _ _ _, k => fun s d hd => Kp.up h _ (k s d hd)
 | .map _, k => fun e he => ⟨Kp.up h _ (k e he).1, Kp.up h _ (k e he).2⟩
 | .hole, _ => trivial
theorem KpO.up {n m : Nat} (h : n <= m) {ob : T C} (k : KpO n ob) : KpO m ob := fun id c hc => ⟨Nat.lt_of_lt_of_le (k id c hc).1 h, (k id c hc).2.up h⟩
mutual
theorem Kp.pu {n : Nat} : ∀ d : D, Pu d -> Kp n d
 | .pt _ _ _, h => by unfold Pu at h; exact h.elim
 | .yl _, h => by unfold Pu at h; exact h.elim
 | .sl _ _ _ _ _, h => by unfold Pu at h; exact h.elim
 | .mp _, h => by unfold Pu at h; exact h.elim
 | .fn _ x y, h => by unfold Pu at h; unfold Kp; exact ⟨KpL.pu x h.1, KpL.pu y h.2⟩
 | .ag cs, h => by unfold Pu at h; unfold Kp; exact KpL.pu cs h
 | .tp cs, h => by unfold Pu at h; unfold Kp; exact KpL.pu cs h
 | .any, h => by unfold Kp; exact h
 | .b _, h => by unfold Kp; exact h
 | .i _ _, h => by unfold Kp; exact h
 | .s _, h => by unfold Kp; exact h
 | .np, h => by unfold Kp; exact h
 | .nf, h => by unfold Kp; exact h
 | .ni, h => by unfold Kp; exact h
 | .nm, h => by unfold Kp; exact h
 | .ns, h => by unfold Kp; exact h
 | .em, h => by unfold Kp; exact h
 | .ifc _ _, h => by unfold Kp; exact h
 | .lst _ _, h => by unfold Kp; exact h
 | .pl _ _, h => by unfold Kp; exact h
theorem KpL.pu {n : Nat} : ∀ ds : List D, aO ds -> KpL n ds
 | [], _ => by unfold KpL; trivial
 | d :: ds, h => by unfold aO at h; unfold KpL; exact ⟨Kp.pu d h.1, KpL.pu ds h.2⟩
end
inductive Fld {α σ : Type} (R : σ -> α -> σ -> Bool -> Prop) : List α -> σ -> σ -> Bool -> Prop where
 | nil {s : σ} : Fld R [] s s true
 | stop {a : α} {l : List α} {s s' : σ} (h : R s a s' false) : Fld R (a :: l) s s' false
 | go {a : α} {l : List α} {s s' s2 : σ} {g : Bool} (h : R s a s' true) (k : Fld R l s' s2 g) : Fld R (a :: l) s s2 g
theorem Fld.app {α σ : Type} {R : σ -> α -> σ -> Bool -> Prop} : ∀ {a b : List α} {s s1 s2 : σ} {g : Bool}, Fld R a s s1 true -> Fld R b s1 s2 g -> Fld R (a ++ b) s s2 g
 | [], _, _, _, _, _, h, k => by cases h; exact k
 | _ :: _, _, _, _, _, _, h, k => by
   cases h with
   | go h1 h2 => exact .go h1 (h2.app k)
theorem Fld.cut {α σ : Type} {R : σ -> α -> σ -> Bool -> Prop} : ∀ {a : List α} (b : List α) {s s1 : σ}, Fld R a s s1 false -> Fld R (a ++ b) s s1 false
 | [], _, _, _, h => by cases h
 | _ :: _, b, _, _, h => by
   cases h with
   | stop h1 => exact .stop h1
   | go h1 h2 => exact .go h1 (h2.cut b)
theorem Fld.inv {α σ : Type} {R : σ -> α -> σ -> Bool -> Prop} {I : List α -> σ -> Prop} {W : List α} (hI : ∀ h s a s', h ++ [a] <+: W -> I h s -> R s a s' true -> I (h ++ [a]) s') : ∀ {l h : List α} {s s' : σ}, h ++ l <+: W -> I h s -> Fld R l s s' true -> I (h ++ l) s'
 | [], h, s, s', _, i, k => by cases k; rw [List.append_nil]; exact i
 | a :: l, h, s, s', hp, i, k => by
   cases k with
   | go h1 h2 =>
     have hp' : h ++ [a] ++ l <+: W := by rw [List.append_assoc]; exact hp
     have := Fld.inv hI hp' (hI _ _ _ _ ((List.prefix_append _ _).trans hp') i h1) h2
     rw [List.append_assoc] at this
     exact this
theorem Bn {α β : Type} {f : α -> β} {L0 L : List α} {a : β} (h0 : L0 <+: L) (h : L0.map f ++ [a] <+: L.map f) : ∃ x, L0 ++ [x] <+: L /\ a = f x := by
 obtain ⟨r, rfl⟩ := h0
 rw [List.map_append] at h
 have h := (List.prefix_append_right_inj _).1 h
 cases r with
 | nil => simp at h
 | cons x r =>
   rw [List.map_cons] at h
   refine ⟨x, (List.prefix_append_right_inj _).2 ⟨r, rfl⟩, ?_⟩
   obtain ⟨t, ht⟩ := h
   simp at ht
   exact ht.1
def nz (n : Int) : Bool := !decide (n = 0)
def VW (m : Mo) : List D := [.i .i64 m.n, .b (nz (m.h 0)), .b (nz (m.h 1)), .b (nz (m.h 2)), .b (nz (m.h 3)), .b (nz (m.h 4)), .b (nz (m.h 5)), .b (nz (m.h 6)), .b (nz (m.h 7))]
theorem fJ (m : Mo) : aO (dW m) := by simp [dW, aO, Pu]
theorem WSt.ixaZ {sl : T D} {ob : T C} {nx : Pos} {lg : Option (T Bool)} {K : X -> Prop} {d id : Pos} {len z off st : Nat} {k : IntKind} {x i : RX} {n : Int} (hx : bG sl x = some (.pt id off st)) (hi : bG sl i = some (.i k n)) (h0 : 0 <= n) (hm : n.toNat < len) (h : dX sl ob nx lg d K (.pt id (off + n.toNat * z) st)) : WSt (.ixa d len z x i) ⟨sl, ob, nx, lg⟩ K :=
 WSt.ixaN (m := n.toNat) hx hi (by omega) hm h
theorem CU (m : Mo) : PureF Try.prog p139.ix [.ag (dW m)] (.ag (VW m)) := by
 unfold dW
 refine PureF.run Tj (by simp) (by simp [aO, eB, Pu, aJ, aB, aE]) ?_; conv => whnf
 refine Qg ?_
 refine Rn.rounds ?_
 iterate 8
  refine RnR.more ?_; conv => whnf
  repeat' ((first | refine Qw ?_ | refine Qd (fun h => ?_) (fun h => ?_)) <;> conv => whnf)
  refine WSt.ixaZ rfl rfl (by omega) (by decide) ?_; conv => whnf
  repeat' ((first | refine Qw ?_ | refine Qd (fun h => ?_) (fun h => ?_)) <;> conv => whnf)
 refine RnR.more ?_; conv => whnf
 repeat' ((first | refine Qw ?_ | refine Qd (fun h => ?_) (fun h => ?_)) <;> conv => whnf)
 refine ⟨.inr rfl, _, rfl, .ag ?_⟩
 unfold VW nz
 repeat' first | exact FzL.nil | refine FzL.cons ?_ ?_
 all_goals exact .pu trivial
theorem LN (n coin box : Int) (ls : List Ln) (cs : List Ct) (m : Mo) : PureF Try.prog p138.ix [.ag [.i .i64 n, .i .i64 coin, .i .i64 box, .lst 3 (aD aM ls), .lst 3 (aD dZ cs), .any], .ag (dW m)] (.fn p156 [] [.pl (jI n coin box ls cs) 0, .pl (dW m) 0]) := by
 unfold dW
 refine PureF.run QO (by simp) (by simp [aO, eB, Pu, aJ, aB, aE]) ?_; conv => whnf
 refine Qg ?_
 refine Fin.t (.inr rfl) rfl (.fn .nil (.cons (Frz.ptr rfl rfl (by simp [jI]) (by simp [jI, aO, Pu, aB, aE])) (.cons (Frz.ptr (r := dW m) rfl rfl (by simp [dW]) (by simp [dW, aO, Pu])) .nil)))
open Go.RowKit (Below Grown)
structure RndE (Φ : Bool -> T C -> Prop) (id : Pos) (nx' : Pos) (e : Ex) (z : X) : Prop where
 ok : ∃ a b m c q s j ob', z.lg = none /\ z.ob.get id = some (.lp a b m c q s j) /\ Shr ⟨.e, T.set id (.lp a b m c q (Fh e) (Fc e)) z.ob, z.nx, none⟩ ⟨.e, ob', nx', none⟩ /\ Φ (Ax e) ob'
structure RndEF (Φ : Bool -> T C -> Prop) (id : Pos) (nx' : Pos) (e : Ex) (z : X) : Prop where
 ok : ∃ a b m c q s j ob' ob2, z.lg = none /\ z.ob.get id = some (.lp a b m c q s j) /\ ∃ nx1 a0, nx'.nat <= nx1.nat /\ nx'.nat <= a0.nat /\ Shr ⟨.e, T.set id (.lp a b m c q (Fh e) (Fc e)) z.ob, z.nx, none⟩ ⟨.e, ob', nx1, none⟩ /\ Fill nx' a0 ob' ob2 /\ Φ (Ax e) ob2
structure RndEA (P : Program) (nt : Nat) (rcB : RC) (id : Pos) (K : Ex -> X -> Prop) (e : Ex) (z : X) : Prop where
 ok : e = .normal /\ z.lg = none /\ ∃ a b m c q j, z.ob.get id = some (.lp a b m c q .ready j) /\ Rn P nt rcB ⟨z.sl, T.set id (.lp a b m c q .busy j) z.ob, z.nx, none⟩ K
theorem RndOk.runE {P : Program} {id : Pos} {ds : List D} {ob : T C} {nx : Pos} {Φ : Bool -> T C -> Prop} {sl0 : T D} {ps : List Pos} {nt : Nat} {asg body : Code} {j0 : Option Ex} {rcA rcB : RC} (hob0 : ob.get id = some (.lp sl0 ps nt asg body .ready j0)) (hA : aV P nt asg = rcA) (hB : aV P nt body = rcB)
 (hp : HU ps ds sl0 fun sl' => Rn P nt rcA ⟨sl', ob, nx, none⟩ (RndEA P nt rcB id (RndE Φ id nx))) : ∃ g ob', Φ g ob' /\ RndOk P id ds ob nx none (.b g) ob' nx none := by
 obtain ⟨sl', h1, h2⟩ := hp
 obtain ⟨e, ⟨s2, ob1, nx1, lg1⟩, X1, h3⟩ := h2.ok asg hA
 obtain ⟨rfl, h4, a1, b1, m1, c1, q1, j1, h5, h6⟩ := h3.ok
 have h4 : lg1 = none := h4
 subst h4
 obtain ⟨e, ⟨s3, ob3, nx3, lg3⟩, X2, h7⟩ := h6.ok body hB
 obtain ⟨a3, b3, m3, c3, q3, s3', j3, ob', k1, k2, k3, k4⟩ := h7.ok
 have k1 : lg3 = none := k1
 subst k1
 exact ⟨Ax e, ob', k4, (RndOk.of hob0 h1 X1 h5 X2 k2).shrink k3 (Nat.le_refl _) (.pu trivial)⟩
theorem RndOk.runEF {P : Program} {id : Pos} {ds : List D} {ob : T C} {nx : Pos} {Φ : Bool -> T C -> Prop} {sl0 : T D} {ps : List Pos} {nt : Nat} {asg body : Code} {j0 : Option Ex} {rcA rcB : RC} (hob0 : ob.get id = some (.lp sl0 ps nt asg body .ready j0)) (hA : aV P nt asg = rcA) (hB : aV P nt body = rcB)
 (hp : HU ps ds sl0 fun sl' => Rn P nt rcA ⟨sl', ob, nx, none⟩ (RndEA P nt rcB id (RndEF Φ id nx))) : ∃ g ob', Φ g ob' /\ RndOk P id ds ob nx none (.b g) ob' nx none := by
 obtain ⟨sl', h1, h2⟩ := hp
 obtain ⟨e, ⟨s2, ob1, nx1, lg1⟩, X1, h3⟩ := h2.ok asg hA
 obtain ⟨rfl, h4, a1, b1, m1, c1, q1, j1, h5, h6⟩ := h3.ok
 have h4 : lg1 = none := h4
 subst h4
 obtain ⟨e, ⟨s3, ob3, nx3, lg3⟩, X2, h7⟩ := h6.ok body hB
 obtain ⟨a3, b3, m3, c3, q3, s3', j3, ob', ob2, k1, k2, nx1, a0, l1, l2, k3, k4, k5⟩ := h7.ok
 have k1 : lg3 = none := k1
 subst k1
 exact ⟨Ax e, ob2, k5, ((RndOk.of hob0 h1 X1 h5 X2 k2).shrink k3 l1 (.pu trivial)).fill trivial l2 k4⟩
theorem CallOk.lower {P : Program} {f : Nat} {ds : List D} {ob ob' : T C} {nx nx' nx0 : Pos} {lg lg' : Option (T Bool)} {v : D} (h : CallOk P f ds ob nx lg v ob' nx' lg') (hle : nx0.nat <= nx.nat) : CallOk P f ds ob nx0 lg v ob' nx' lg' :=
 ⟨h.hl, Nat.le_trans hle h.hx, h.hk, fun so hs γ args w gh ha ho hn => h.ok so hs γ args w gh ha ho fun id h1 h2 => hn id h1 (Nat.le_trans hle h2)⟩
def bP (x1 x2 x3 x4 x5 x6 x7 x8 x9 x10 x11 x12 x13 x14 x15 x16 x17 x18 x19 x20 : Option C) : T C := .n (.n (.n (.n (.n .e x16 .e) x8 .e) x4 (.n (.n .e x20 .e) x12 .e)) x2 (.n (.n (.n .e x18 .e) x10 .e) x6 (.n .e x14 .e))) x1 (.n (.n (.n (.n .e x17 .e) x9 .e) x5 (.n .e x13 .e)) x3 (.n (.n (.n .e x19 .e) x11 .e) x7 (.n .e x15 .e)))
def JS (x1 x2 x3 x4 x5 x6 x7 x8 x9 x10 x11 x12 x13 x14 x15 x16 x17 x18 x19 x20 x21 x22 : Option C) : T C := .n (.n (.n (.n (.n .e x16 .e) x8 .e) x4 (.n (.n .e x20 .e) x12 .e)) x2 (.n (.n (.n .e x18 .e) x10 .e) x6 (.n (.n .e x22 .e) x14 .e))) x1 (.n (.n (.n (.n .e x17 .e) x9 .e) x5 (.n (.n .e x21 .e) x13 .e)) x3 (.n (.n (.n .e x19 .e) x11 .e) x7 (.n .e x15 .e)))
def Ge : Pos := .o (.o (.o (.o .h)))
def MF : Pos := .i (.o (.o (.o .h)))
def ET : Pos := .o (.i (.o (.o .h)))
def JO : Pos := .i (.i (.o (.o .h)))
def Lh : Pos := .o (.o (.i (.o .h)))
def nb5 : Pos := .i (.o (.i (.o .h)))
theorem T.le_same {α : Type} {l r l' r' : T α} {v : Option α} (hl : T.le l l') (hr : T.le r r') : T.le (.n l v r) (.n l' v r') := T.le_n hl (.inr rfl) hr
theorem OE {id : Pos} (h : id.nat < 16) : id = .h \/ id = (.o .h) \/ id = (.i .h) \/ id = (.o (.o .h)) \/ id = (.i (.o .h)) \/ id = (.o (.i .h)) \/ id = (.i (.i .h)) \/ id = (.o (.o (.o .h))) \/ id = (.i (.o (.o .h))) \/ id = (.o (.i (.o .h))) \/ id = (.i (.i (.o .h))) \/ id = (.o (.o (.i .h))) \/ id = (.i (.o (.i .h))) \/ id = (.o (.i (.i .h))) \/ id = (.i (.i (.i .h))) := by
 match id, h with
 | .h, _ => exact .inl rfl
 | .o .h, _ => exact .inr (.inl rfl)
 | .o (.o .h), _ => exact .inr (.inr (.inr (.inl rfl)))
 | .o (.o (.o .h)), _ => exact .inr (.inr (.inr (.inr (.inr (.inr (.inr (.inl rfl)))))))
 | .o (.o (.o (.o p))), h => have := Pos.nat_pos p; simp [Pos.nat] at h; omega
 | .o (.o (.o (.i p))), h => have := Pos.nat_pos p; simp [Pos.nat] at h; omega
 | .o (.o (.i .h)), _ => exact .inr (.inr (.inr (.inr (.inr (.inr (.inr (.inr (.inr (.inr (.inr (.inl rfl)))))))))))
 | .o (.o (.i (.o p))), h => have := Pos.nat_pos p; simp [Pos.nat] at h; omega
 | .o (.o (.i (.i p))), h => have := Pos.nat_pos p; simp [Pos.nat] at h; omega
 | .o (.i .h), _ => exact .inr (.inr (.inr (.inr (.inr (.inl rfl)))))
 | .o (.i (.o .h)), _ => exact .inr (.inr (.inr (.inr (.inr (.inr (.inr (.inr (.inr (.inl rfl)))))))))
 | .o (.i (.o (.o p))), h => have := Pos.nat_pos p; simp [Pos.nat] at h; omega
 | .o (.i (.o (.i p))), h => have := Pos.nat_pos p; simp [Pos.nat] at h; omega
 | .o (.i (.i .h)), _ => exact .inr (.inr (.inr (.inr (.inr (.inr (.inr (.inr (.inr (.inr (.inr (.inr (.inr (.inl rfl)))))))))))))
 | .o (.i (.i (.o p))), h => have := Pos.nat_pos p; simp [Pos.nat] at h; omega
 | .o (.i (.i (.i p))), h => have := Pos.nat_pos p; simp [Pos.nat] at h; omega
 | .i .h, _ => exact .inr (.inr (.inl rfl))
 | .i (.o .h), _ => exact .inr (.inr (.inr (.inr (.inl rfl))))
 | .i (.o (.o .h)), _ => exact .inr (.inr (.inr (.inr (.inr (.inr (.inr (.inr (.inl rfl))))))))
 | .i (.o (.o (.o p))), h => have := Pos.nat_pos p; simp [Pos.nat] at h; omega
 | .i (.o (.o (.i p))), h => have := Pos.nat_pos p; simp [Pos.nat] at h; omega
 | .i (.o (.i .h)), _ => exact .inr (.inr (.inr (.inr (.inr (.inr (.inr (.inr (.inr (.inr (.inr (.inr (.inl rfl))))))))))))
 | .i (.o (.i (.o p))), h => have := Pos.nat_pos p; simp [Pos.nat] at h; omega
 | .i (.o (.i (.i p))), h => have := Pos.nat_pos p; simp [Pos.nat] at h; omega
 | .i (.i .h), _ => exact .inr (.inr (.inr (.inr (.inr (.inr (.inl rfl))))))
 | .i (.i (.o .h)), _ => exact .inr (.inr (.inr (.inr (.inr (.inr (.inr (.inr (.inr (.inr (.inl rfl))))))))))
 | .i (.i (.o (.o p))), h => have := Pos.nat_pos p; simp [Pos.nat] at h; omega
 | .i (.i (.o (.i p))), h => have := Pos.nat_pos p; simp [Pos.nat] at h; omega
 | .i (.i (.i .h)), _ => exact .inr (.inr (.inr (.inr (.inr (.inr (.inr (.inr (.inr (.inr (.inr (.inr (.inr (.inr (rfl))))))))))))))
 | .i (.i (.i (.o p))), h => have := Pos.nat_pos p; simp [Pos.nat] at h; omega
 | .i (.i (.i (.i p))), h => have := Pos.nat_pos p; simp [Pos.nat] at h; omega
theorem OL {id : Pos} (h : 16 <= id.nat) : id ≠ .h /\ id ≠ (.o .h) /\ id ≠ (.i .h) /\ id ≠ (.o (.o .h)) /\ id ≠ (.i (.o .h)) /\ id ≠ (.o (.i .h)) /\ id ≠ (.i (.i .h)) /\ id ≠ (.o (.o (.o .h))) /\ id ≠ (.i (.o (.o .h))) /\ id ≠ (.o (.i (.o .h))) /\ id ≠ (.i (.i (.o .h))) /\ id ≠ (.o (.o (.i .h))) /\ id ≠ (.i (.o (.i .h))) /\ id ≠ (.o (.i (.i .h))) /\ id ≠ (.i (.i (.i .h))) := by
 refine ⟨?_, ?_, ?_, ?_, ?_, ?_, ?_, ?_, ?_, ?_, ?_, ?_, ?_, ?_, ?_⟩ <;> (rintro rfl; simp [Pos.nat] at h)
section
variable {x1 x2 x3 x4 x5 x6 x7 x8 x9 x10 x11 x12 x13 x14 x15 y1 y2 y3 y4 y5 y6 y7 y8 y9 y10 y11 y12 y13 y14 y15 x16 x17 x18 x19 x20 x21 x22 : Option C}
theorem PD {id : Pos} (h : 16 <= id.nat) : (JS y1 y2 y3 y4 y5 y6 y7 y8 y9 y10 y11 y12 y13 y14 y15 x16 x17 x18 x19 x20 x21 x22).get id = (JS x1 x2 x3 x4 x5 x6 x7 x8 x9 x10 x11 x12 x13 x14 x15 x16 x17 x18 x19 x20 x21 x22).get id := by
 have h := OL h
 unfold JS
 match id, h with
 | .h, h => exact absurd rfl h.1
 | .o .h, h => exact absurd rfl h.2.1
 | .o (.o .h), h => exact absurd rfl h.2.2.2.1
 | .o (.o (.o .h)), h => exact absurd rfl h.2.2.2.2.2.2.2.1
 | .o (.o (.o (.o .h))), _ => rfl
 | .o (.o (.o (.o (.o _)))), _ => rfl
 | .o (.o (.o (.o (.i _)))), _ => rfl
 | .o (.o (.o (.i _))), _ => rfl
 | .o (.o (.i .h)), h => exact absurd rfl h.2.2.2.2.2.2.2.2.2.2.2.1
 | .o (.o (.i (.o .h))), _ => rfl
 | .o (.o (.i (.o (.o _)))), _ => rfl
 | .o (.o (.i (.o (.i _)))), _ => rfl
 | .o (.o (.i (.i _))), _ => rfl
 | .o (.i .h), h => exact absurd rfl h.2.2.2.2.2.1
 | .o (.i (.o .h)), h => exact absurd rfl h.2.2.2.2.2.2.2.2.2.1
 | .o (.i (.o (.o .h))), _ => rfl
 | .o (.i (.o (.o (.o _)))), _ => rfl
 | .o (.i (.o (.o (.i _)))), _ => rfl
 | .o (.i (.o (.i _))), _ => rfl
 | .o (.i (.i .h)), h => exact absurd rfl h.2.2.2.2.2.2.2.2.2.2.2.2.2.1
 | .o (.i (.i (.o .h))), _ => rfl
 | .o (.i (.i (.o (.o _)))), _ => rfl
 | .o (.i (.i (.o (.i _)))), _ => rfl
 | .o (.i (.i (.i _))), _ => rfl
 | .i .h, h => exact absurd rfl h.2.2.1
 | .i (.o .h), h => exact absurd rfl h.2.2.2.2.1
 | .i (.o (.o .h)), h => exact absurd rfl h.2.2.2.2.2.2.2.2.1
 | .i (.o (.o (.o .h))), _ => rfl
 | .i (.o (.o (.o (.o _)))), _ => rfl
 | .i (.o (.o (.o (.i _)))), _ => rfl
 | .i (.o (.o (.i _))), _ => rfl
 | .i (.o (.i .h)), h => exact absurd rfl h.2.2.2.2.2.2.2.2.2.2.2.2.1
 | .i (.o (.i (.o .h))), _ => rfl
 | .i (.o (.i (.o (.o _)))), _ => rfl
 | .i (.o (.i (.o (.i _)))), _ => rfl
 | .i (.o (.i (.i _))), _ => rfl
 | .i (.i .h), h => exact absurd rfl h.2.2.2.2.2.2.1
 | .i (.i (.o .h)), h => exact absurd rfl h.2.2.2.2.2.2.2.2.2.2.1
 | .i (.i (.o (.o .h))), _ => rfl
 | .i (.i (.o (.o (.o _)))), _ => rfl
 | .i (.i (.o (.o (.i _)))), _ => rfl
 | .i (.i (.o (.i _))), _ => rfl
 | .i (.i (.i .h)), h => exact absurd rfl h.2.2.2.2.2.2.2.2.2.2.2.2.2.2
 | .i (.i (.i (.o _))), _ => rfl
 | .i (.i (.i (.i _))), _ => rfl
theorem Oh {id : Pos} {c : C} (h : id.nat < 16) (hc : (JS y1 y2 y3 y4 y5 y6 y7 y8 y9 y10 y11 y12 y13 y14 y15 x16 x17 x18 x19 x20 x21 x22).get id = some c) : (bP y1 y2 y3 y4 y5 y6 y7 y8 y9 y10 y11 y12 y13 y14 y15 none none none none none).get id = some c := by
 rcases OE h with rfl | rfl | rfl | rfl | rfl | rfl | rfl | rfl | rfl | rfl | rfl | rfl | rfl | rfl | rfl <;> exact hc
theorem CS : Beside Ge (bP y1 y2 y3 y4 y5 y6 y7 y8 y9 y10 y11 y12 y13 y14 y15 none none none none none) (JS x1 x2 x3 x4 x5 x6 x7 x8 x9 x10 x11 x12 x13 x14 x15 x16 x17 x18 x19 x20 x21 x22) (JS y1 y2 y3 y4 y5 y6 y7 y8 y9 y10 y11 y12 y13 y14 y15 x16 x17 x18 x19 x20 x21 x22) := ⟨fun id c h hc => Oh h hc, fun id h => PD h⟩
theorem NL : T.le (bP x1 x2 x3 x4 x5 x6 x7 x8 x9 x10 x11 x12 x13 x14 x15 none none none none none) (JS x1 x2 x3 x4 x5 x6 x7 x8 x9 x10 x11 x12 x13 x14 x15 x16 x17 x18 x19 x20 x21 x22) := by
 unfold bP JS
 repeat' first | exact T.le_refl _ | exact T.le_e _ | refine T.le_same ?_ ?_ | refine T.le_none ?_ ?_
end
theorem Ow {x1 x2 x3 x4 x5 x6 x7 x8 x9 x10 x11 x12 x13 x14 x15 x16 x17 x18 x19 x20 : Option C} {id : Pos} (e1 : id ≠ ET) (e2 : id ≠ JO) (e3 : id ≠ Lh) : (bP x1 x2 x3 x4 x5 x6 x7 x8 x9 x10 x11 x12 x13 x14 x15 x16 x17 x18 x19 x20).get id = (bP x1 x2 x3 x4 x5 x6 x7 x8 x9 x10 x11 x12 x13 x14 x15 x16 x17 none none none).get id := by
 unfold bP
 match id, e1, e2, e3 with
 | .h, _, _, _ => rfl
 | .o .h, _, _, _ => rfl
 | .o (.o .h), _, _, _ => rfl
 | .o (.o (.o .h)), _, _, _ => rfl
 | .o (.o (.o (.o .h))), _, _, _ => rfl
 | .o (.o (.o (.o (.o _)))), _, _, _ => rfl
 | .o (.o (.o (.o (.i _)))), _, _, _ => rfl
 | .o (.o (.o (.i _))), _, _, _ => rfl
 | .o (.o (.i .h)), _, _, _ => rfl
 | .o (.o (.i (.o .h))), _, _, e => exact absurd rfl e
 | .o (.o (.i (.o (.o _)))), _, _, _ => rfl
 | .o (.o (.i (.o (.i _)))), _, _, _ => rfl
 | .o (.o (.i (.i _))), _, _, _ => rfl
 | .o (.i .h), _, _, _ => rfl
 | .o (.i (.o .h)), _, _, _ => rfl
 | .o (.i (.o (.o .h))), e, _, _ => exact absurd rfl e
 | .o (.i (.o (.o (.o _)))), _, _, _ => rfl
 | .o (.i (.o (.o (.i _)))), _, _, _ => rfl
 | .o (.i (.o (.i _))), _, _, _ => rfl
 | .o (.i (.i .h)), _, _, _ => rfl
 | .o (.i (.i (.o _))), _, _, _ => rfl
 | .o (.i (.i (.i _))), _, _, _ => rfl
 | .i .h, _, _, _ => rfl
 | .i (.o .h), _, _, _ => rfl
 | .i (.o (.o .h)), _, _, _ => rfl
 | .i (.o (.o (.o .h))), _, _, _ => rfl
 | .i (.o (.o (.o (.o _)))), _, _, _ => rfl
 | .i (.o (.o (.o (.i _)))), _, _, _ => rfl
 | .i (.o (.o (.i _))), _, _, _ => rfl
 | .i (.o (.i .h)), _, _, _ => rfl
 | .i (.o (.i (.o _))), _, _, _ => rfl
 | .i (.o (.i (.i _))), _, _, _ => rfl
 | .i (.i .h), _, _, _ => rfl
 | .i (.i (.o .h)), _, _, _ => rfl
 | .i (.i (.o (.o .h))), _, e, _ => exact absurd rfl e
 | .i (.i (.o (.o (.o _)))), _, _, _ => rfl
 | .i (.i (.o (.o (.i _)))), _, _, _ => rfl
 | .i (.i (.o (.i _))), _, _, _ => rfl
 | .i (.i (.i .h)), _, _, _ => rfl
 | .i (.i (.i (.o _))), _, _, _ => rfl
 | .i (.i (.i (.i _))), _, _, _ => rfl
theorem Pj {x1 x2 x3 x4 x5 x6 x7 x8 x9 x10 x11 x12 x13 x14 x15 x16 x17 : Option C} {id : Pos} {c : C} (h : (bP x1 x2 x3 x4 x5 x6 x7 x8 x9 x10 x11 x12 x13 x14 x15 x16 x17 none none none).get id = some c) : id = Ge \/ id = MF \/ (id.nat < 16 /\ (bP x1 x2 x3 x4 x5 x6 x7 x8 x9 x10 x11 x12 x13 x14 x15 none none none none none).get id = some c) := by
 unfold bP at h
 match id, h with
 | .h, h => exact .inr (.inr ⟨by simp [Pos.nat], h⟩)
 | .o .h, h => exact .inr (.inr ⟨by simp [Pos.nat], h⟩)
 | .o (.o .h), h => exact .inr (.inr ⟨by simp [Pos.nat], h⟩)
 | .o (.o (.o .h)), h => exact .inr (.inr ⟨by simp [Pos.nat], h⟩)
 | .o (.o (.o (.o .h))), _ => exact .inl rfl
 | .o (.o (.o (.o (.o _)))), h => cases h
 | .o (.o (.o (.o (.i _)))), h => cases h
 | .o (.o (.o (.i _))), h => cases h
 | .o (.o (.i .h)), h => exact .inr (.inr ⟨by simp [Pos.nat], h⟩)
 | .o (.o (.i (.o .h))), h => cases h
 | .o (.o (.i (.o (.o _)))), h => cases h
 | .o (.o (.i (.o (.i _)))), h => cases h
 | .o (.o (.i (.i _))), h => cases h
 | .o (.i .h), h => exact .inr (.inr ⟨by simp [Pos.nat], h⟩)
 | .o (.i (.o .h)), h => exact .inr (.inr ⟨by simp [Pos.nat], h⟩)
 | .o (.i (.o (.o .h))), h => cases h
 | .o (.i (.o (.o (.o _)))), h => cases h
 | .o (.i (.o (.o (.i _)))), h => cases h
 | .o (.i (.o (.i _))), h => cases h
 | .o (.i (.i .h)), h => exact .inr (.inr ⟨by simp [Pos.nat], h⟩)
 | .o (.i (.i (.o _))), h => cases h
 | .o (.i (.i (.i _))), h => cases h
 | .i .h, h => exact .inr (.inr ⟨by simp [Pos.nat], h⟩)
 | .i (.o .h), h => exact .inr (.inr ⟨by simp [Pos.nat], h⟩)
 | .i (.o (.o .h)), h => exact .inr (.inr ⟨by simp [Pos.nat], h⟩)
 | .i (.o (.o (.o .h))), _ => exact .inr (.inl rfl)
 | .i (.o (.o (.o (.o _)))), h => cases h
 | .i (.o (.o (.o (.i _)))), h => cases h
 | .i (.o (.o (.i _))), h => cases h
 | .i (.o (.i .h)), h => exact .inr (.inr ⟨by simp [Pos.nat], h⟩)
 | .i (.o (.i (.o _))), h => cases h
 | .i (.o (.i (.i _))), h => cases h
 | .i (.i .h), h => exact .inr (.inr ⟨by simp [Pos.nat], h⟩)
 | .i (.i (.o .h)), h => exact .inr (.inr ⟨by simp [Pos.nat], h⟩)
 | .i (.i (.o (.o .h))), h => cases h
 | .i (.i (.o (.o (.o _)))), h => cases h
 | .i (.i (.o (.o (.i _)))), h => cases h
 | .i (.i (.o (.i _))), h => cases h
 | .i (.i (.i .h)), h => exact .inr (.inr ⟨by simp [Pos.nat], h⟩)
 | .i (.i (.i (.o _))), h => cases h
 | .i (.i (.i (.i _))), h => cases h
section
variable {x1 x2 x3 x4 x5 x6 x7 x8 x9 x10 x11 y1 y2 y3 y4 y5 y6 y7 y8 y9 y10 y11 x12 x13 x14 x15 x16 x17 x18 x19 x20 : Option C}
theorem qS {id : Pos} (h : id.nat < 12) : id = .h \/ id = (.o .h) \/ id = (.i .h) \/ id = (.o (.o .h)) \/ id = (.i (.o .h)) \/ id = (.o (.i .h)) \/ id = (.i (.i .h)) \/ id = (.o (.o (.o .h))) \/ id = (.i (.o (.o .h))) \/ id = (.o (.i (.o .h))) \/ id = (.i (.i (.o .h))) := by
 match id, h with
 | .h, _ => exact .inl rfl
 | .o .h, _ => exact .inr (.inl rfl)
 | .o (.o .h), _ => exact .inr (.inr (.inr (.inl rfl)))
 | .o (.o (.o .h)), _ => exact .inr (.inr (.inr (.inr (.inr (.inr (.inr (.inl rfl)))))))
 | .o (.o (.o (.o p))), h => have := Pos.nat_pos p; simp [Pos.nat] at h; omega
 | .o (.o (.o (.i p))), h => have := Pos.nat_pos p; simp [Pos.nat] at h; omega
 | .o (.o (.i p)), h => have := Pos.nat_pos p; simp [Pos.nat] at h; omega
 | .o (.i .h), _ => exact .inr (.inr (.inr (.inr (.inr (.inl rfl)))))
 | .o (.i (.o .h)), _ => exact .inr (.inr (.inr (.inr (.inr (.inr (.inr (.inr (.inr (.inl rfl)))))))))
 | .o (.i (.o (.o p))), h => have := Pos.nat_pos p; simp [Pos.nat] at h; omega
 | .o (.i (.o (.i p))), h => have := Pos.nat_pos p; simp [Pos.nat] at h; omega
 | .o (.i (.i p)), h => have := Pos.nat_pos p; simp [Pos.nat] at h; omega
 | .i .h, _ => exact .inr (.inr (.inl rfl))
 | .i (.o .h), _ => exact .inr (.inr (.inr (.inr (.inl rfl))))
 | .i (.o (.o .h)), _ => exact .inr (.inr (.inr (.inr (.inr (.inr (.inr (.inr (.inl rfl))))))))
 | .i (.o (.o (.o p))), h => have := Pos.nat_pos p; simp [Pos.nat] at h; omega
 | .i (.o (.o (.i p))), h => have := Pos.nat_pos p; simp [Pos.nat] at h; omega
 | .i (.o (.i p)), h => have := Pos.nat_pos p; simp [Pos.nat] at h; omega
 | .i (.i .h), _ => exact .inr (.inr (.inr (.inr (.inr (.inr (.inl rfl))))))
 | .i (.i (.o .h)), _ => exact .inr (.inr (.inr (.inr (.inr (.inr (.inr (.inr (.inr (.inr (rfl))))))))))
 | .i (.i (.o (.o p))), h => have := Pos.nat_pos p; simp [Pos.nat] at h; omega
 | .i (.i (.o (.i p))), h => have := Pos.nat_pos p; simp [Pos.nat] at h; omega
 | .i (.i (.i p)), h => have := Pos.nat_pos p; simp [Pos.nat] at h; omega
theorem IW {id : Pos} (h : 12 <= id.nat) : id ≠ .h /\ id ≠ (.o .h) /\ id ≠ (.i .h) /\ id ≠ (.o (.o .h)) /\ id ≠ (.i (.o .h)) /\ id ≠ (.o (.i .h)) /\ id ≠ (.i (.i .h)) /\ id ≠ (.o (.o (.o .h))) /\ id ≠ (.i (.o (.o .h))) /\ id ≠ (.o (.i (.o .h))) /\ id ≠ (.i (.i (.o .h))) := by
 refine ⟨?_, ?_, ?_, ?_, ?_, ?_, ?_, ?_, ?_, ?_, ?_⟩ <;> (rintro rfl; simp [Pos.nat] at h)
theorem uS {id : Pos} (h : 12 <= id.nat) : (bP y1 y2 y3 y4 y5 y6 y7 y8 y9 y10 y11 x12 x13 x14 x15 x16 x17 x18 x19 x20).get id = (bP x1 x2 x3 x4 x5 x6 x7 x8 x9 x10 x11 x12 x13 x14 x15 x16 x17 x18 x19 x20).get id := by
 have h := IW h
 unfold bP
 match id, h with
 | .h, h => exact absurd rfl h.1
 | .o .h, h => exact absurd rfl h.2.1
 | .o (.o .h), h => exact absurd rfl h.2.2.2.1
 | .o (.o (.o .h)), h => exact absurd rfl h.2.2.2.2.2.2.2.1
 | .o (.o (.o (.o .h))), _ => rfl
 | .o (.o (.o (.o (.o _)))), _ => rfl
 | .o (.o (.o (.o (.i _)))), _ => rfl
 | .o (.o (.o (.i _))), _ => rfl
 | .o (.o (.i .h)), _ => rfl
 | .o (.o (.i (.o .h))), _ => rfl
 | .o (.o (.i (.o (.o _)))), _ => rfl
 | .o (.o (.i (.o (.i _)))), _ => rfl
 | .o (.o (.i (.i _))), _ => rfl
 | .o (.i .h), h => exact absurd rfl h.2.2.2.2.2.1
 | .o (.i (.o .h)), h => exact absurd rfl h.2.2.2.2.2.2.2.2.2.1
 | .o (.i (.o (.o .h))), _ => rfl
 | .o (.i (.o (.o (.o _)))), _ => rfl
 | .o (.i (.o (.o (.i _)))), _ => rfl
 | .o (.i (.o (.i _))), _ => rfl
 | .o (.i (.i .h)), _ => rfl
 | .o (.i (.i (.o _))), _ => rfl
 | .o (.i (.i (.i _))), _ => rfl
 | .i .h, h => exact absurd rfl h.2.2.1
 | .i (.o .h), h => exact absurd rfl h.2.2.2.2.1
 | .i (.o (.o .h)), h => exact absurd rfl h.2.2.2.2.2.2.2.2.1
 | .i (.o (.o (.o .h))), _ => rfl
 | .i (.o (.o (.o (.o _)))), _ => rfl
 | .i (.o (.o (.o (.i _)))), _ => rfl
 | .i (.o (.o (.i _))), _ => rfl
 | .i (.o (.i .h)), _ => rfl
 | .i (.o (.i (.o _))), _ => rfl
 | .i (.o (.i (.i _))), _ => rfl
 | .i (.i .h), h => exact absurd rfl h.2.2.2.2.2.2.1
 | .i (.i (.o .h)), h => exact absurd rfl h.2.2.2.2.2.2.2.2.2.2
 | .i (.i (.o (.o .h))), _ => rfl
 | .i (.i (.o (.o (.o _)))), _ => rfl
 | .i (.i (.o (.o (.i _)))), _ => rfl
 | .i (.i (.o (.i _))), _ => rfl
 | .i (.i (.i .h)), _ => rfl
 | .i (.i (.i (.o _))), _ => rfl
 | .i (.i (.i (.i _))), _ => rfl
theorem GM {id : Pos} {c : C} (h : id.nat < 12) (hc : (bP y1 y2 y3 y4 y5 y6 y7 y8 y9 y10 y11 x12 x13 x14 x15 x16 x17 x18 x19 x20).get id = some c) : (bP y1 y2 y3 y4 y5 y6 y7 y8 y9 y10 y11 none none none none none none none none none).get id = some c := by
 rcases qS h with rfl | rfl | rfl | rfl | rfl | rfl | rfl | rfl | rfl | rfl | rfl <;> exact hc
def zZ : Pos := .o (.o (.i .h))
theorem pS : Beside zZ (bP y1 y2 y3 y4 y5 y6 y7 y8 y9 y10 y11 none none none none none none none none none) (bP x1 x2 x3 x4 x5 x6 x7 x8 x9 x10 x11 x12 x13 x14 x15 x16 x17 x18 x19 x20) (bP y1 y2 y3 y4 y5 y6 y7 y8 y9 y10 y11 x12 x13 x14 x15 x16 x17 x18 x19 x20) := ⟨fun id c h hc => GM h hc, fun id h => uS h⟩
theorem BH : T.le (bP x1 x2 x3 x4 x5 x6 x7 x8 x9 x10 x11 none none none none none none none none none) (bP x1 x2 x3 x4 x5 x6 x7 x8 x9 x10 x11 x12 x13 x14 x15 x16 x17 x18 x19 x20) := by
 unfold bP
 repeat' first | exact T.le_refl _ | exact T.le_e _ | refine T.le_same ?_ ?_ | refine T.le_none ?_ ?_
end
end Go.Ev
end
