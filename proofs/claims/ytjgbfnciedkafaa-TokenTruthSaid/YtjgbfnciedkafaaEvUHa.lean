import Derived.Test.YtjgbfnciedkafaaEvUJe
import Derived.Test.YtjgbfnciedkafaaEvUJ0
import Derived.Test.YtjgbfnciedkafaaEvUJs
import Derived.Test.YtjgbfnciedkafaaEvUGc
import Derived.Test.YtjgbfnciedkafaaEvUIt
import Derived.Test.YtjgbfnciedkafaaEvUN3
set_option linter.all false
set_option maxHeartbeats 8000000
noncomputable section
namespace Go.Ev
open Go.Proofs
set_option maxRecDepth 100000
theorem Fe {n : Int} {l x : Ln} {i j : Int} : ∀ k : Nat, x ∈ sK n l i j k ↔ (x.k = i /\ x.c = j /\ (0 <= x.t /\ x.t < (k : Int)) /\ pV l x = true)
 | 0 => by
   unfold sK
   constructor
   ·intro h; cases h
   ·rintro ⟨_, _, h, _⟩; exact absurd h (by omega)
 | k + 1 => by
   unfold sK
   rw [List.mem_append, Fe k]
   constructor
   ·rintro (⟨h1, h2, h3, h4⟩ | h)
    ·exact ⟨h1, h2, by omega, h4⟩
    ·cases ha : pV l ⟨i, j, (k : Int)⟩ with
     | false => rw [ha] at h; cases h
     | true =>
       rw [ha, cond_true, List.mem_singleton] at h
       subst h
       exact ⟨rfl, rfl, ⟨by show (0 : Int) <= (k : Int); omega, by show (k : Int) < ((k + 1 : Nat) : Int); omega⟩, ha⟩
   ·obtain ⟨xk, xc, xt⟩ := x
    rintro ⟨h1, h2, h3, h4⟩
    have h1 : xk = i := h1
    have h2 : xc = j := h2
    have h3 : 0 <= xt /\ xt < ((k + 1 : Nat) : Int) := h3
    by_cases h : xt < (k : Int)
    ·exact .inl ⟨h1, h2, ⟨h3.1, h⟩, h4⟩
    ·right
     have : xt = (k : Int) := by omega
     subst h1 h2 this
     rw [h4, cond_true]
     exact List.mem_singleton.2 rfl
theorem wY {n : Int} {l x : Ln} {i : Int} : ∀ k : Nat, x ∈ hJ n l i k ↔ (x.k = i /\ (0 <= x.c /\ x.c < (k : Int)) /\ (0 <= x.t /\ x.t < (n.toNat : Int)) /\ pV l x = true)
 | 0 => by
   unfold hJ
   constructor
   ·intro h; cases h
   ·rintro ⟨_, h, _, _⟩; exact absurd h (by omega)
 | k + 1 => by
   unfold hJ
   rw [List.mem_append, wY k, Fe]
   constructor
   ·rintro (⟨h1, h2, h3, h4⟩ | ⟨h1, h2, h3, h4⟩)
    ·exact ⟨h1, by omega, h3, h4⟩
    ·exact ⟨h1, by omega, h3, h4⟩
   ·rintro ⟨h1, h2, h3, h4⟩
    by_cases h : x.c < (k : Int)
    ·exact .inl ⟨h1, ⟨h2.1, h⟩, h3, h4⟩
    ·exact .inr ⟨h1, by omega, h3, h4⟩
theorem yY {n : Int} {l x : Ln} (hn : 0 <= n) : x ∈ pL n l ↔ No n l x = true := by
 unfold pL
 show x ∈ ([] ++ hJ n l (((0 : Nat) : Int) + 1) n.toNat) ++ hJ n l (((1 : Nat) : Int) + 1) n.toNat ↔ _
 rw [List.nil_append, List.mem_append, wY, wY]
 unfold No
 rw [Bool.and_eq_true, Bool.and_eq_true, Bool.and_eq_true, aP, aP, aP]
 constructor
 ·rintro (⟨h1, h2, h3, h4⟩ | ⟨h1, h2, h3, h4⟩)
  ·exact ⟨by omega, by omega, by omega, h4⟩
  ·exact ⟨by omega, by omega, by omega, h4⟩
 ·rintro ⟨h1, h2, h3, h4⟩
  have : x.k = 1 \/ x.k = 2 := by omega
  rcases this with h | h
  ·exact .inl ⟨by omega, by omega, by omega, h4⟩
  ·exact .inr ⟨by omega, by omega, by omega, h4⟩
abbrev xH (n : Int) (ls : List Ln) (i : Nat) : List Ln := pL n (ls.getD i default)
def Ab (n : Int) (ls : List Ln) (m : Nat) : Nat -> Nat
 | 0 => m
 | i + 1 => Ab n ls m i / (xH n ls i).length
def pD (n : Int) (ls : List Ln) (m : Nat) : Nat -> List Ln
 | 0 => []
 | i + 1 => pD n ls m i ++ [(xH n ls i).getD (Ab n ls m i % (xH n ls i).length) default]
def Mc (n : Int) (ls : List Ln) (m : Nat) : List Ln := pD n ls m ls.length
def pF (n : Int) (ls : List Ln) : Nat -> Nat
 | 0 => 1
 | i + 1 => pF n ls i * (xH n ls i).length
theorem vK (n : Int) (ls : List Ln) (m : Nat) : ∀ i, (pD n ls m i).length = i
 | 0 => rfl
 | i + 1 => by
   unfold pD
   rw [List.length_append, vK n ls m i]; rfl
theorem EV (n : Int) (ls : List Ln) (m : Nat) : ∀ {i j : Nat}, j < i -> (pD n ls m i).getD j default = (xH n ls j).getD (Ab n ls m j % (xH n ls j).length) default
 | 0, _, h => absurd h (Nat.not_lt_zero _)
 | i + 1, j, h => by
   unfold pD
   have hl := vK n ls m i
   by_cases e : j = i
   ·subst e
    have := cW (pD n ls m j) ((xH n ls j).getD (Ab n ls m j % (xH n ls j).length) default)
    rw [hl] at this
    exact this
   ·have := SameTo.app (pD n ls m i) ((xH n ls i).getD (Ab n ls m i % (xH n ls i).length) default) j (by rw [hl]; omega)
    rw [this]
    exact EV n ls m (by omega)
theorem uQ (n : Int) (ls : List Ln) (m : Nat) : ∀ i, Ab n ls m i = m / pF n ls i
 | 0 => by
   show m = m / 1
   rw [Nat.div_one]
 | i + 1 => by
   unfold Ab pF
   rw [uQ n ls m i, Nat.div_div_eq_div_mul]
theorem Bd {B : Bk} (V : VB B) {i : Nat} (h : i < B.ls.length) : ((xH B.n B.ls i).length : Int) = kU B.n (B.ls.getD i default) /\ 1 <= (xH B.n B.ls i).length /\ (xH B.n B.ls i).length <= 32 := by
 have h1 := CP V.n (List.all_eq_true.1 V.ls _ (bS (d := default) h))
 have h2 := oC V.n.1 V.n.2 (B.ls.getD i default)
 have h1 : ((xH B.n B.ls i).length : Int) = kU B.n (B.ls.getD i default) := h1
 exact ⟨h1, by omega, by omega⟩
theorem Da {B : Bk} (V : VB B) : ∀ i, i <= B.ls.length -> 1 <= pF B.n B.ls i
 | 0, _ => Nat.le_refl _
 | i + 1, h => by
   have h1 := Da V i (by omega)
   have h2 := (Bd V (i := i) (by omega)).2.1
   unfold pF
   exact Nat.mul_pos h1 h2
theorem Fn {B : Bk} (V : VB B) : ∀ i, i <= B.ls.length -> (pF B.n B.ls i : Int) = eY B.n (B.ls.take i)
 | 0, _ => rfl
 | i + 1, h => by
   have h1 := Fn V i (by omega)
   have h2 := (Bd V (i := i) (by omega)).1
   have h3 : eY B.n (B.ls.take (i + 1)) = eY B.n (B.ls.take i) * kU B.n (B.ls.getD i default) := kM _ _ (by omega)
   unfold pF
   rw [h3, <- h1, <- h2, Int.natCast_mul]
theorem Ie (n : Int) (ls : List Ln) {q : Nat} : ∀ {i : Nat}, q < i -> ∃ K, pF n ls i = pF n ls q * ((xH n ls q).length * K)
 | 0, h => absurd h (Nat.not_lt_zero _)
 | i + 1, h => by
   by_cases e : q = i
   ·subst e
    exact ⟨1, by rw [Nat.mul_one]; rfl⟩
   ·obtain ⟨K, hK⟩ := Ie n ls (show q < i by omega)
    refine ⟨K * (xH n ls i).length, ?_⟩
    show pF n ls i * (xH n ls i).length = _
    rw [hK, Nat.mul_assoc, Nat.mul_assoc]
theorem zL {n : Int} {ls : List Ln} {m m' : Nat} : ∀ i, (∀ q, q < i -> Ab n ls m' q % (xH n ls q).length = Ab n ls m q % (xH n ls q).length) -> pD n ls m' i = pD n ls m i
 | 0, _ => rfl
 | i + 1, h => by
   unfold pD
   rw [zL i (fun q hq => h q (by omega)), h i (by omega)]
theorem FT {B : Bk} (V : VB B) {X : List Ln} (hl : X.length = B.ls.length) (hX : ∀ i, i < X.length -> X.getD i default ∈ xH B.n B.ls i) : ∀ i, i <= B.ls.length -> ∃ m, m < pF B.n B.ls i /\ pD B.n B.ls m i = X.take i
 | 0, _ => ⟨0, Nat.one_pos, rfl⟩
 | i + 1, h => by
   obtain ⟨m, hm, he⟩ := FT V hl hX i (by omega)
   obtain ⟨k, hk, hg⟩ := List.getElem_of_mem (hX i (show i < X.length by omega))
   have hP := Da V i (by omega)
   have hdiv : (m + pF B.n B.ls i * k) / pF B.n B.ls i = k := by
    rw [Nat.add_mul_div_left _ _ hP, Nat.div_eq_of_lt hm, Nat.zero_add]
   refine ⟨m + pF B.n B.ls i * k, ?_, ?_⟩
   ·show m + pF B.n B.ls i * k < pF B.n B.ls i * (xH B.n B.ls i).length
    have : pF B.n B.ls i * (k + 1) <= pF B.n B.ls i * (xH B.n B.ls i).length := Nat.mul_le_mul_left _ hk
    rw [Nat.mul_add, Nat.mul_one] at this
    omega
   ·rw [aM (d := default) (show i < X.length by omega)]
    show pD B.n B.ls _ i ++ [_] = _
    have hc : pD B.n B.ls (m + pF B.n B.ls i * k) i = pD B.n B.ls m i := zL i fun q hq => by
     obtain ⟨K, hK⟩ := Ie B.n B.ls hq
     have hPq : 0 < pF B.n B.ls q := Da V q (Nat.le_trans (Nat.le_of_lt hq) (Nat.le_of_succ_le h))
     rw [uQ, uQ, hK, Nat.mul_assoc, Nat.add_mul_div_left _ _ hPq, Nat.mul_assoc, Nat.add_mul_mod_self_left]
    rw [hc, he, uQ, hdiv, Nat.mod_eq_of_lt hk]
    congr 2
    rw [<- hg]
    simp [List.getD, hk]
def Xw (box coin : Int) (cs : List Ct) (T : List Ln) : Bool := dW T && wJ box coin cs T
def HV (n : Int) (ls : List Ln) : List (List Ln) := (List.range (eL n ls).toNat).map (Mc n ls)
def pQ (B : Bk) : List (List Ln) := (HV B.n B.ls).filter (Xw B.box B.coin B.cs)
theorem KG {B : Bk} (V : VB B) (m : Nat) : iY B.n B.ls (Mc B.n B.ls m) = true := by
 unfold iY
 rw [Bool.and_eq_true, decide_eq_true_iff, List.all_eq_true]
 have hl : (Mc B.n B.ls m).length = B.ls.length := vK _ _ _ _
 refine ⟨hl, fun i hi => ?_⟩
 have hi : i < B.ls.length := by rw [<- hl]; exact List.mem_range.1 hi
 rw [<- yY (by have := V.n; omega)]
 have h2 := (Bd V hi).2.1
 have : (Mc B.n B.ls m).getD i default = _ := EV _ _ _ hi
 rw [this]
 exact bS (Nat.mod_lt _ h2)
theorem GW {B : Bk} (V : VB B) {X : List Ln} : X ∈ HV B.n B.ls ↔ iY B.n B.ls X = true := by
 unfold HV
 rw [List.mem_map]
 constructor
 ·rintro ⟨m, _, rfl⟩
  exact KG V m
 ·intro h
  have hm : (pF B.n B.ls B.ls.length : Int) = eL B.n B.ls := by
   have h1 := Fn V B.ls.length (Nat.le_refl _)
   rw [List.take_length] at h1
   have h2 := fQ V.n.1 V.n.2 B.ls
   have h3 := V.many
   omega
  unfold iY at h
  rw [Bool.and_eq_true, decide_eq_true_iff, List.all_eq_true] at h
  obtain ⟨hl, h⟩ := h
  obtain ⟨m, h1, h2⟩ := FT V hl (fun i hi => by
   rw [yY (by have := V.n; omega)]
   exact h i (List.mem_range.2 hi)) B.ls.length (Nat.le_refl _)
  refine ⟨m, List.mem_range.2 (by omega), ?_⟩
  show pD _ _ _ _ = _
  rw [h2, List.take_of_length_le (by omega)]
theorem jU {B : Bk} (V : VB B) {X : List Ln} : X ∈ pQ B ↔ sF B.n B.coin B.box B.ls B.cs X = true := by
 unfold pQ sF
 rw [List.mem_filter, GW V, Bool.and_eq_true (iY _ _ _)]
 rfl
theorem nY {B : Bk} (V : VB B) {X : List Ln} : X ∈ pQ B ↔ X ∈ gN B B.ls.length [] := by
 rw [jU V, fH, Kb V]
theorem Iy {B : Bk} (V : VB B) {X : List Ln} (h : X ∈ pQ B) : X.length = B.ls.length := by
 rw [jU V] at h
 unfold sF iY at h
 rw [Bool.and_eq_true, Bool.and_eq_true, decide_eq_true_iff] at h
 exact h.1.1
def YY (X : List Ln) : List D := [.lst 3 (aC aI X)]
theorem gG (L : List (List Ln)) : dF (aC YY L) := lX (fun x => by simp [YY, aO, Pu, aB]) L
section
variable (n coin box : Int) (ls : List Ln) (cs : List Ct)
end
theorem CB {B : Bk} (V : VB B) : lI B = true ↔ pQ B ≠ [] := by
 unfold lI
 rw [rM]
 constructor
 ·rintro ⟨X, h⟩ he
  have := (nY V).2 (fH.2 h)
  rw [he] at this; cases this
 ·intro h
  obtain ⟨X, s, hs⟩ := List.exists_cons_of_ne_nil h
  have : X ∈ pQ B := by rw [hs]; exact List.mem_cons_self
  exact ⟨X, fH.1 ((nY V).1 this)⟩
theorem jW : ∀ (L : List Int) (a : Int), L.foldl min a <= a /\ (∀ x ∈ L, L.foldl min a <= x) /\ (L.foldl min a = a \/ L.foldl min a ∈ L)
 | [], a => ⟨Int.le_refl _, fun x h => absurd h (by simp), .inl rfl⟩
 | y :: L, a => by
   obtain ⟨h1, h2, h3⟩ := jW L (min a y)
   refine ⟨by show L.foldl min (min a y) <= a; omega, fun x hx => ?_, ?_⟩
   ·show L.foldl min (min a y) <= x
    rcases List.mem_cons.1 hx with rfl | hx
    ·omega
    ·exact h2 x hx
   ·show L.foldl min (min a y) = a \/ L.foldl min (min a y) ∈ y :: L
    rcases h3 with h3 | h3
    ·by_cases h : a <= y
     ·left; omega
     ·right; rw [h3, show min a y = y by omega]; exact List.mem_cons_self
    ·exact .inr (List.mem_cons_of_mem _ h3)
theorem jQ : ∀ (L : List Int) (a : Int), a <= L.foldl max a /\ (∀ x ∈ L, x <= L.foldl max a) /\ (L.foldl max a = a \/ L.foldl max a ∈ L)
 | [], a => ⟨Int.le_refl _, fun x h => absurd h (by simp), .inl rfl⟩
 | y :: L, a => by
   obtain ⟨h1, h2, h3⟩ := jQ L (max a y)
   refine ⟨by show a <= L.foldl max (max a y); omega, fun x hx => ?_, ?_⟩
   ·show x <= L.foldl max (max a y)
    rcases List.mem_cons.1 hx with rfl | hx
    ·omega
    ·exact h2 x hx
   ·show L.foldl max (max a y) = a \/ L.foldl max (max a y) ∈ y :: L
    rcases h3 with h3 | h3
    ·by_cases h : y <= a
     ·left; omega
     ·right; rw [h3, show max a y = y by omega]; exact List.mem_cons_self
    ·exact .inr (List.mem_cons_of_mem _ h3)
theorem xT {A : List Int} (h : A ≠ []) : A.getD 0 0 ∈ A := bS (by cases A with | nil => exact absurd rfl h | cons a s => simp)
theorem Es {B : Bk} (V : VB B) {aft : Nat} {ak : Mo -> Int} {g : List Ln -> Int} (hg : ∀ X, ak (fJ B.box B.coin X aft) = g X) (x : Int) : x ∈ eX B aft ak ↔ x ∈ (pQ B).map g := by
 unfold eX
 rw [List.mem_map, List.mem_map]
 constructor
 ·rintro ⟨X, h, rfl⟩
  exact ⟨X, (nY V).2 h, (hg X).symm⟩
 ·rintro ⟨X, h, rfl⟩
  exact ⟨X, (nY V).1 h, hg X⟩
theorem CZ {B : Bk} {aft : Nat} {ak : Mo -> Int} (h : gN B B.ls.length [] ≠ []) : eX B aft ak ≠ [] := by
 unfold eX
 intro he
 exact h (List.map_eq_nil_iff.1 he)
theorem Fz.whole {B : Pos -> Prop} {ob : T C} {id : Pos} {z st : Nat} {cs : List Cell} {cur : Nat} {es : List (List D)} {n : Nat} (hB : ¬ B id) (h : ob.get id = some (.cells false cs cur)) (hn : n = es.length) (hz : ∀ r ∈ es, r.length = z) (hc : cs = es.flatten.map fun d => Cell.o d st) (hp : dF es) : Fz B ob (.sl id 0 n st z) (.lst z es) := by
 subst hc
 refine .sl hB h hn.symm hz (fun k d hk => ⟨.o d st, ?_, ?_, rfl⟩) (FzE.of hp)
 ·rw [List.drop_zero, List.getElem?_map, hk]; rfl
 ·show Nat.ble st st = true
  exact Nat.ble_eq_true_of_le (Nat.le_refl _)
def Cm (B : Bk) (aft x : Nat) : List Int := eX B aft fun m => min (m.h x) 1
def yS (B : Bk) (aft x : Nat) : Int := OX ((Cm B aft x).foldl min ((Cm B aft x).getD 0 0)) ((Cm B aft x).foldl max ((Cm B aft x).getD 0 0))
def nQ (B : Bk) (aft fst : Nat) : List Int := (List.range B.n.toNat).map fun i => yS B aft (fst + i)
theorem mP (B : Bk) (aft fst : Nat) : (nQ B aft fst).length = B.n.toNat := by simp [nQ]
theorem As {B : Bk} {aft fst j : Nat} (h : j < B.n.toNat) : (nQ B aft fst).getD j 0 = yS B aft (fst + j) := by simp [nQ, List.getD, h]
theorem NX {L : List Int} (hne : L ≠ []) (h : ∀ x ∈ L, 0 <= x /\ x <= 1) : (0 <= L.foldl min (L.getD 0 0) /\ L.foldl min (L.getD 0 0) <= 1) /\ (0 <= L.foldl max (L.getD 0 0) /\ L.foldl max (L.getD 0 0) <= 1) := by
 have h0 : L.getD 0 0 ∈ L := by
  cases L with
  | nil => exact absurd rfl hne
  | cons a l => simp
 constructor
 ·rcases tW (L := L) (a := L.getD 0 0) with e | e
  ·rw [e]; exact h _ h0
  ·exact h _ e
 ·rcases tZ (L := L) (a := L.getD 0 0) with e | e
  ·rw [e]; exact h _ h0
  ·exact h _ e
theorem ML {B : Bk} {aft x : Nat} : ∀ y ∈ Cm B aft x, 0 <= y /\ y <= 1 := fun y hy => by
 obtain ⟨X, _, rfl⟩ := List.mem_map.1 hy
 have g1 := kL X (x : Int) aft
 have g2 := kI X ((x - 4 : Nat) : Int) aft
 have : 0 <= (fJ B.box B.coin X aft).h x := by
  show 0 <= (if x < 4 then aZ X (x : Int) aft + 1 else bC X ((x - 4 : Nat) : Int) aft + 1)
  split <;> omega
 show 0 <= min ((fJ B.box B.coin X aft).h x) 1 /\ min ((fJ B.box B.coin X aft).h x) 1 <= 1
 omega
theorem Kl {B : Bk} {aft x : Nat} (hne : gN B B.ls.length [] ≠ []) : PureF Try.prog p118.ix [Cd (Cm B aft x)] (.i .i64 (yS B aft x)) := by
 have hA : Cm B aft x ≠ [] := fun e => hne (List.map_eq_nil_iff.1 e)
 obtain ⟨⟨a1, a2⟩, ⟨b1, b2⟩⟩ := NX hA ML
 exact GT _ _ (cK (by omega) (by omega)) (cK (by omega) (by omega))
theorem vI {B : Bk} (V : VB B) {aft fst : Nat} (ha : aft <= B.ls.length) (hf : fst <= 4) (hne : gN B B.ls.length [] ≠ []) (M : dN) (hM : MOk B M) :
 ∃ M', MOk B M' /\ CallOk Try.prog p87.ix [.ag (gI B ++ [.mp .h]), .i .i64 (aft : Int), .i .i64 (fst : Int)] (eT M) (.o .h) none (.lst 1 (ints (nQ B aft fst))) (eT M') (.o .h) none := by
 have hn := V.n
 obtain ⟨v, ob', ⟨M', hM', rfl, rfl⟩, Hb⟩ := CallOk.runE (Φ := fun v ob' => ∃ M', MOk B M' /\ v = .lst 1 (ints (nQ B aft fst)) /\ ob' = eT M') (ob := eT M) (nx := .o .h) (nx' := .o .h) (ds := [.ag (gI B ++ [.mp .h]), .i .i64 (aft : Int), .i .i64 (fst : Int)]) Xg (by simp) (Nat.le_refl _) (by
  unfold gI
  conv => whnf
  refine Qg ?_
  refine Rn.loop (fun (t : Nat × dN) => match t with
   | (0, M) => ⟨(.n (.n (.n (.n .e (some (.ns)) .e) (some (.pt (.o .h) 0 0)) .e) (some (.i .i64 (aft : Int))) (.n .e none (.n .e (some (.i .i64 0)) .e))) none (.n (.n .e none (.n .e (some (.i .i64 B.n)) .e)) (some (.i .i64 (fst : Int))) .e)), (.n (.n .e (some (eG B)) .e) (some (.map (bT M))) .e), .i .h, none⟩
   | (j + 1, M) => ⟨(.n (.n (.n (.n .e (some (.sl (.o (.o .h)) 0 (j + 1) j 1)) .e) (some (.pt (.o .h) 0 0)) .e) (some (.i .i64 (aft : Int))) (.n .e none (.n .e (some (.i .i64 ((j + 1 : Nat) : Int))) .e))) none (.n (.n .e none (.n .e (some (.i .i64 B.n)) .e)) (some (.i .i64 (fst : Int))) .e)), (.n (.n (.n .e (some (.cells false ((((nQ B aft fst).take (j + 1)).map fun n => D.i .i64 n).map fun d => Cell.o d j) (j + 1))) .e) (some (eG B)) .e) (some (.map (bT M))) .e), .i (.o .h), none⟩) (fun t => t.1 <= B.n.toNat /\ MOk B t.2) (fun t => B.n.toNat - t.1) (0, M) ?_ ?_ ?_
  ·refine X.le.mk ?_ ?_ (Nat.le_refl _) rfl rfl <;> exact eN
  ·exact ⟨Nat.zero_le _, hM⟩
  rintro ⟨_ | j, M⟩ ⟨hj, hM⟩
  ·have hM : MOk B M := hM
   obtain ⟨M', hM', Hb⟩ := rN V (zV B (fst + 0) (by omega)) ha hne M hM
   have cV := Kl (aft := aft) (x := fst + 0) hne
   rw [show ((fst + 0 : Nat) : Int) = (fst : Int) + 0 by omega] at Hb
   conv => whnf
   repeat' ((first | refine Qw ?_ | refine Qd (fun h => ?_) (fun h => ?_)) <;> conv => whnf)
   ·refine WCall.of (CallOk.mapAt Hb (uW _) (id := .h) rfl (show 1 < Pos.nat (.i .h) from by decide) (jX (by simp [aO, Pu]))) ?_; conv => whnf
    repeat' ((first | refine Qw ?_ | refine Qf cV ?_ | refine Qd (fun h => ?_) (fun h => ?_)) <;> conv => whnf)
    refine WSt.app_first (r := [.i .i64 (yS B aft (fst + 0))]) rfl (.inl rfl) rfl rfl rfl rfl ?_; conv => whnf
    repeat' ((first | refine Qw ?_ | refine Qd (fun h => ?_) (fun h => ?_)) <;> conv => whnf)
    have ht : (nQ B aft fst).take 1 = [yS B aft (fst + 0)] := by
     rw [aM (d := 0) (show 0 < (nQ B aft fst).length by rw [mP]; omega), As (by omega)]; rfl
    refine Again.to (1, M') (show B.n.toNat - 1 < B.n.toNat - 0 by omega) ⟨show 1 <= B.n.toNat by omega, hM'⟩ (Nat.le_of_ble_eq_true rfl) ?_
    refine Shr.of ?_ ?_ rfl rfl
    ·(repeat' first | exact Rel.e | refine Rel.some ?_ ?_ ?_ | refine Rel.none ?_ ?_ | refine Rel.ee ?_ ?_)
     all_goals show Fz _ _ _ _
     all_goals first | exact Fy | (refine Fz.i ?_; omega)
    ·(repeat' first | exact Rel.e | refine Rel.some ?_ ?_ ?_ | refine Rel.none ?_ ?_ | refine Rel.ee ?_ ?_)
     all_goals first
      | exact RO'.of (show Pos.nat _ < Pos.nat _ by simp [Pos.nat]) (ShC.kp dP)
      | exact RO'.of (show Pos.nat _ < Pos.nat _ by simp [Pos.nat]) (ShC.kp (jD B (by simp [Pos.nat])))
      | (refine RO'.of (show Pos.nat _ < Pos.nat _ by simp [Pos.nat]) ?_
         show ShC _ _ _ (.cells false ((((nQ B aft fst).take 1).map fun n => D.i .i64 n).map fun d => Cell.o d 0) 1)
         rw [ht]
         exact ShC.same (ShC.cn (.pu trivial) ShC.nl))
  ·have hM : MOk B M := hM
   have hj : j + 1 <= B.n.toNat := hj
   conv => whnf
   refine Qg ?_
   refine WB.dec (fun h => ?_) (fun h => ?_) <;> conv => whnf
   ·have hlt : j + 1 < B.n.toNat := by omega
    obtain ⟨M', hM', Hb⟩ := rN V (zV B (fst + (j + 1)) (by omega)) ha hne M hM
    have cV := Kl (aft := aft) (x := fst + (j + 1)) hne
    rw [show ((fst + (j + 1) : Nat) : Int) = (fst : Int) + ((j + 1 : Nat) : Int) by omega] at Hb
    repeat' ((first | refine Qw ?_ | refine Qd (fun h => ?_) (fun h => ?_)) <;> conv => whnf)
    refine WCall.of (CallOk.mapAt Hb (uW _) (id := .h) rfl (show 1 < Pos.nat (.i (.o .h)) from by decide) (jX (by simp [aO, Pu]))) ?_; conv => whnf
    repeat' ((first | refine Qw ?_ | refine Qf cV ?_ | refine Qd (fun h => ?_) (fun h => ?_)) <;> conv => whnf)
    refine WSt.app_one (ds := ((nQ B aft fst).take (j + 1)).map fun n => D.i .i64 n) (r := [.i .i64 (yS B aft (fst + (j + 1)))]) rfl rfl rfl rfl rfl rfl (by rw [List.length_map, List.length_take, mP]; omega) rfl rfl (by omega) rfl ?_; conv => whnf
    repeat' ((first | refine Qw ?_ | refine Qd (fun h => ?_) (fun h => ?_)) <;> conv => whnf)
    have ht : (nQ B aft fst).take (j + 2) = (nQ B aft fst).take (j + 1) ++ [yS B aft (fst + (j + 1))] := by
     rw [aM (d := 0) (show j + 1 < (nQ B aft fst).length by rw [mP]; omega), As (by omega)]
    refine Again.to (j + 2, M') (show B.n.toNat - (j + 2) < B.n.toNat - (j + 1) by omega) ⟨show j + 2 <= B.n.toNat by omega, hM'⟩ (Nat.le_of_ble_eq_true rfl) ?_
    refine Shr.of ?_ ?_ rfl rfl
    ·(repeat' first | exact Rel.e | refine Rel.some ?_ ?_ ?_ | refine Rel.none ?_ ?_ | refine Rel.ee ?_ ?_)
     all_goals show Fz _ _ _ _
     all_goals first | exact Fy | (refine Fz.i ?_; omega)
    ·(repeat' first | exact Rel.e | refine Rel.some ?_ ?_ ?_ | refine Rel.none ?_ ?_ | refine Rel.ee ?_ ?_)
     all_goals first
      | exact RO'.of (show Pos.nat _ < Pos.nat _ by simp [Pos.nat]) (ShC.kp dP)
      | exact RO'.of (show Pos.nat _ < Pos.nat _ by simp [Pos.nat]) (ShC.kp (jD B (by simp [Pos.nat])))
      | (refine RO'.of (show Pos.nat _ < Pos.nat _ by simp [Pos.nat]) ?_
         show ShC _ _ (.cells false (((((nQ B aft fst).take (j + 1)).map fun n => D.i .i64 n).map fun d => Cell.o d j) ++ [D.i .i64 (yS B aft (fst + (j + 1)))].map fun d => Cell.o d (j + 1)) (j + 1 + 1)) (.cells false ((((nQ B aft fst).take (j + 2)).map fun n => D.i .i64 n).map fun d => Cell.o d (j + 1)) (j + 1 + 1))
         rw [ht, List.map_append]
         refine ShC.grown (by omega) (aF.2 fun d hd => ?_)
         rcases List.mem_append.1 hd with h | h
         ·exact aF.1 (dQ _) d h
         ·rw [List.mem_singleton.1 h]; trivial)
   ·refine Qg ?_
    refine ⟨_, _, ⟨M, hM, rfl, rfl⟩, ⟨.inr rfl, ⟨_, rfl, ?_⟩, Shr.kp ?_ (fI M)⟩⟩
    ·exact Fz.whole (cs := (((nQ B aft fst).take (j + 1)).map fun n => D.i .i64 n).map fun d => Cell.o d j) (cur := j + 1) (show ¬ 4 < 2 by omega) rfl (by rw [aU, mP]; omega) (dS _) (by rw [bV, List.take_of_length_le (by rw [mP]; omega)]) (aH _)
    ·show T.le (T.n .e (some (.map (bT M))) .e : T Ev.C) _
     refine T.le_some (T.le_e _) rfl (T.le_e _))
 exact ⟨M', hM', Hb⟩
def Oh (n coin box : Int) (ls : List Ln) (cs : List Ct) (after : Int) : D :=
 if sE n coin box ls cs (gE after 0 ls.length) = 0 then .tp [.lst 1 (ints (nQ (B5 n coin box ls cs) after.toNat 0)), .lst 1 (ints (nQ (B5 n coin box ls cs) after.toNat 4)), .i .i64 0] else .tp [.lst 1 [], .lst 1 [], .i .i64 (sE n coin box ls cs (gE after 0 ls.length))]
theorem Ox (n coin box : Int) (ls : List Ln) (cs : List Ct) (after : Int) : PureF Try.prog p34.ix [.ag [.i .i64 n, .i .i64 coin, .i .i64 box, .lst 3 (aC aI ls), .lst 3 (aC cY cs)], .i .i64 after] (Oh n coin box ls cs after) := by
 have e1 := aD aI ls
 have cU : PureF Try.prog p86.ix [.i .i64 after, .i .i64 ((aC aI ls).length : Int)] (.b (gE after 0 ls.length)) := by
  have := uZ after ((aC aI ls).length : Int)
  rw [e1] at this ⊢
  exact this
 unfold Oh
 by_cases hE : sE n coin box ls cs (gE after 0 ls.length) = 0
 ·rw [if_pos hE]
  obtain ⟨hf, ht⟩ := rL hE
  have hE' := hE
  rw [ht] at hE' cU
  obtain ⟨M, hM, Hs⟩ := qN n coin box ls cs hE'
  have ha := aP.1 ht
  have V := VB.of hf
  obtain ⟨M', hM', Hb⟩ := vI V (aft := after.toNat) (fst := 0) (show after.toNat <= ls.length by omega) (by omega) (xW hE) M hM
  obtain ⟨M'', hM'', Hc⟩ := vI V (aft := after.toNat) (fst := 4) (show after.toNat <= ls.length by omega) (by omega) (xW hE) M' hM'
  rw [show ((after.toNat : Nat) : Int) = after by omega] at Hb Hc
  refine PureF.run SH (by simp) (by simp [aO, dF, Pu, aH, aB, aE]) ?_; conv => whnf
  repeat' ((first | refine Qw ?_ | refine Qf cU ?_ | refine Qd (fun h => ?_) (fun h => ?_)) <;> conv => whnf)
  refine WCall.of (rY Hs) ?_; conv => whnf
  repeat' ((first | refine Qw ?_ | refine Qd (fun h => ?_) (fun h => ?_)) <;> conv => whnf)
  refine WCall.of (CallOk.mapAt Hb (aH _) (id := .o .h) rfl (show 2 < 4 from by decide) (jX (show aO [.i .i64 after, .i .i64 ((0 : Nat) : Int)] from ⟨trivial, trivial, trivial⟩))) ?_; conv => whnf
  repeat' ((first | refine Qw ?_ | refine Qd (fun h => ?_) (fun h => ?_)) <;> conv => whnf)
  refine WCall.of (CallOk.mapAt Hc (aH _) (id := .o .h) rfl (show 2 < 4 from by decide) (jX (show aO [.i .i64 after, .i .i64 ((4 : Nat) : Int)] from ⟨trivial, trivial, trivial⟩))) ?_; conv => whnf
  repeat' ((first | refine Qw ?_ | refine Qd (fun h => ?_) (fun h => ?_)) <;> conv => whnf)
  exact ⟨.inr rfl, _, rfl, .tp (.cons (.pu (aH _)) (.cons (.pu (aH _)) (.cons (.pu trivial) .nil)))⟩
 ·rw [if_neg hE]
  have cS := qO n coin box ls cs _ hE
  generalize sE n coin box ls cs (gE after 0 ls.length) = e at hE cS ⊢
  unfold gI B5 Rs at cS
  refine PureF.run SH (by simp) (by simp [aO, dF, Pu, aH, aB, aE]) ?_; conv => whnf
  repeat' ((first | refine Qw ?_ | refine Qf cU ?_ | refine Qf cS ?_ | refine Qd (fun h => ?_) (fun h => ?_)) <;> conv => whnf)
  all_goals first
   | (exfalso; omega)
   | exact ⟨.inr rfl, _, rfl, .tp (.cons .ns (.cons .ns (.cons (.pu trivial) .nil)))⟩
def Aj (yes many : Int) : Int := if yes = many then 1 else if yes = 0 then 2 else 3
def AC (p : List Ln -> Bool) (L : List (List Ln)) : Int := ((L.filter p).length : Int)
def cP (m : Nat) (c : Int) (t : List Ln) : Bool := decide (0 <= aZ t c m)
def tP (m : Nat) (c : Int) (t : List Ln) : Bool := decide (0 <= bC t c m)
theorem nZ {α : Type} {p : α -> Bool} {L : List α} : (L.filter p).length = L.length ↔ ∀ x ∈ L, p x = true := by
 induction L with
 | nil => simp
 | cons a L ih =>
   have h1 := List.length_filter_le p L
   cases h : p a with
   | true => 
     rw [List.filter_cons_of_pos h, List.length_cons, List.length_cons, List.forall_mem_cons, <- ih]
     constructor
     ·intro h2; exact ⟨h, by omega⟩
     ·intro h2; have := h2.2; omega
   | false =>
     rw [List.filter_cons_of_neg (by rw [h]; simp), List.length_cons]
     constructor
     ·intro h2; omega
     ·intro h2; have := h2 a List.mem_cons_self; rw [h] at this; cases this
theorem mU {α : Type} {p : α -> Bool} {L : List α} : (L.filter p).length = 0 ↔ ∀ x ∈ L, p x = false := by
 rw [List.length_eq_zero_iff, List.filter_eq_nil_iff]
 constructor
 ·intro h x hx; have := h x hx; cases hp : p x with
  | true => exact absurd hp this
  | false => rfl
 ·intro h x hx; rw [h x hx]; simp
theorem CE {A : List Int} {L : List (List Ln)} {p : List Ln -> Bool} (hne : A ≠ []) (hs : ∀ x, x ∈ A ↔ x ∈ L.map fun t => Hl (p t)) : OX (A.foldl min (A.getD 0 0)) (A.foldl max (A.getD 0 0)) = Aj (AC p L) (L.length : Int) := by
 have hA := xT hne
 obtain ⟨a1, a2, a3⟩ := jW A (A.getD 0 0)
 obtain ⟨c1, c2, c3⟩ := jQ A (A.getD 0 0)
 have m1 : A.foldl min (A.getD 0 0) ∈ A := by
  rcases a3 with h | h
  ·rw [h]; exact hA
  ·exact h
 have m2 : A.foldl max (A.getD 0 0) ∈ A := by
  rcases c3 with h | h
  ·rw [h]; exact hA
  ·exact h
 obtain ⟨t1, ht1, e1⟩ := List.mem_map.1 ((hs _).1 m1)
 obtain ⟨t2, ht2, e2⟩ := List.mem_map.1 ((hs _).1 m2)
 have hmem : ∀ t ∈ L, A.foldl min (A.getD 0 0) <= Hl (p t) /\ Hl (p t) <= A.foldl max (A.getD 0 0) := fun t ht => by
  have := (hs (Hl (p t))).2 (List.mem_map.2 ⟨t, ht, rfl⟩)
  exact ⟨a2 _ this, c2 _ this⟩
 have h0 : L.length ≠ 0 := fun h => by
  rw [List.length_eq_zero_iff.1 h] at ht1; cases ht1
 generalize A.foldl min (A.getD 0 0) = lo at *
 generalize A.foldl max (A.getD 0 0) = hi at *
 unfold OX Aj AC
 cases q1 : p t1 with
 | true =>
   rw [q1] at e1
   have e1 : (1 : Int) = lo := e1
   have hall : ∀ t ∈ L, p t = true := fun t ht => by
    have := (hmem t ht).1
    cases h : p t with
    | true => rfl
    | false => rw [h] at this; have : lo <= 0 := this; omega
   have e2 : (1 : Int) = hi := by rw [hall t2 ht2] at e2; exact e2
   rw [if_pos (show lo = 1 /\ hi = 1 from ⟨by omega, by omega⟩), if_pos (by rw [nZ.2 hall])]
 | false =>
   rw [q1] at e1
   have e1 : (0 : Int) = lo := e1
   have hn1 : ¬ (L.filter p).length = L.length := fun h => by
    have := nZ.1 h t1 ht1
    rw [q1] at this; cases this
   rw [if_neg (show ¬ (lo = 1 /\ hi = 1) from fun h => by omega), if_neg (show ¬ ((L.filter p).length : Int) = (L.length : Int) from fun h => hn1 (by omega))]
   cases q2 : p t2 with
   | false =>
     rw [q2] at e2
     have e2 : (0 : Int) = hi := e2
     have hnone : ∀ t ∈ L, p t = false := fun t ht => by
      have := (hmem t ht).2
      cases h : p t with
      | false => rfl
      | true => rw [h] at this; have : 1 <= hi := this; omega
     rw [if_pos (show lo = 0 /\ hi = 0 from ⟨by omega, by omega⟩), if_pos (show ((L.filter p).length : Int) = 0 from by rw [mU.2 hnone]; rfl)]
   | true =>
     rw [q2] at e2
     have e2 : (1 : Int) = hi := e2
     have hn2 : ¬ (L.filter p).length = 0 := fun h => by
      have := mU.1 h t2 ht2
      rw [q2] at this; cases this
     rw [if_neg (show ¬ (lo = 0 /\ hi = 0) from fun h => by omega), if_neg (show ¬ ((L.filter p).length : Int) = 0 from fun h => hn2 (by omega))]
theorem Lc {B : Bk} (V : VB B) {aft x : Nat} (hx : x < 8) (hne : gN B B.ls.length [] ≠ []) : yS B aft x = if x < 4 then Aj (AC (cP aft (x : Int)) (pQ B)) ((pQ B).length : Int) else Aj (AC (tP aft ((x - 4 : Nat) : Int)) (pQ B)) ((pQ B).length : Int) := by
 unfold yS Cm
 by_cases h4 : x < 4
 ·rw [if_pos h4]
  refine CE (CZ hne) (Es V fun X => ?_)
  show min ((if x < 4 then aZ X (x : Int) aft + 1 else _) : Int) 1 = Hl (decide (0 <= aZ X (x : Int) aft))
  rw [if_pos h4]
  have := kL X (x : Int) aft
  by_cases h : 0 <= aZ X (x : Int) aft
  ·rw [decide_eq_true h]; show _ = (1 : Int); omega
  ·rw [decide_eq_false h]; show _ = (0 : Int); omega
 ·rw [if_neg h4]
  refine CE (CZ hne) (Es V fun X => ?_)
  show min ((if x < 4 then _ else bC X ((x - 4 : Nat) : Int) aft + 1) : Int) 1 = Hl (decide (0 <= bC X ((x - 4 : Nat) : Int) aft))
  rw [if_neg h4]
  have := kI X ((x - 4 : Nat) : Int) aft
  by_cases h : 0 <= bC X ((x - 4 : Nat) : Int) aft
  ·rw [decide_eq_true h]; show _ = (1 : Int); omega
  ·rw [decide_eq_false h]; show _ = (0 : Int); omega
theorem oK {n coin box : Int} {ls : List Ln} {cs : List Ct} (h : aS n coin box ls cs = 0) (hb : lI (B5 n coin box ls cs) = true) : sE n coin box ls cs true = 0 := by unfold sE; rw [if_neg (fun k => k h), hb]; rfl
set_option maxRecDepth 1000000
def AA : Pos := .o p63
def Dg : Pos := .i p63
def Dq : Pos := .o Gd
def Ea : Pos := .i Gd
def FY : Pos := .o Di
def GP : Pos := .i Di
def HM : Pos := .o EA
def Jn : Pos := .i EA
def Mg : Pos := .o JQ
def Hw : Pos := .o Jv
def IN : Pos := .i Jv
def IA : Pos := .o Iw
def LN : Pos := .i Iw
def Bh : Pos := .o p75
def KD : Pos := .i p75
def Ih : Pos := .o p76
def JL : Pos := .i p76
def KB : Pos := .o p77
def KE : Pos := .i p77
def Bj : Pos := .o p81
def Gf : Pos := .i p81
def Ic : Pos := .o p82
def Gw : Pos := .o JC
def Jr : Pos := .i JC
def II : Pos := .o p84
def HX : Pos := .i p84
def Kr : Pos := .o p85
def Ko : Pos := .i p85
def In : Pos := .o p86
def Ml : Pos := .i p86
def Co : Pos := .o p87
def Jg : Pos := .i p87
def On : Pos := .o Kn
def OH : Pos := .i Kn
def QF : Pos := .o p89
def SY : Pos := .i p89
def SA : Pos := .o Hd
def RQ : Pos := .i Hd
def Tt : Pos := .o Ii
def Ti : Pos := .i Ii
def RU : Pos := .o p92
def RY : Pos := .i p92
def UO : Pos := .o p93
def Vl : Pos := .i p93
def SB : Pos := .o p94
def TG : Pos := .i p94
def Tk : Pos := .o p95
def Mq : RC := (Sr [(.u (.box p3 p1)), (.u (.new p5 [(.i .i64 0), (.i .i64 0), (.i .i64 0), .ns, .ns])), (.u (.mv p6 (.k .ns)))] (Sr [(bM p21 p3 5), (.u (.new p7 [(.i .i64 0), (.i .i64 0), (.i .i64 0), .ns, .ns])), (.u (.st p7 p21 5))] (Sr [(Fd p22 p7 3), (.u (.st p22 (.k .ns) 1)), (Fd p23 p7 4), (.u (.st p23 (.k .ns) 1))] (Sr [(.u (.mv p8 (.k .ns)))] (.seq (Sr [(.u (.mv p9 (K_ 0)))] (.blk 0 (.loop (.seq (Sr [(Mv p24 p9), (Mv p25 p2), (Cf p26 p97 [p25, (K_ 0)]), (cB eE .rem p26 9), (dX p28 .lss p24 eE)] (.cond p28 .skip (.exit 0))) (.seq (.blk 1 (Sr [(Mv p31 p2), (Mv hU p9), (cB p33 .add hU 1), (Cf p34 p97 [p31, p33]), (Mv p10 p34)] (Sr [(.u (.mv bD (.k .ns)))] (.seq (Sr [(.u (.mv bF (K_ 1)))] (.blk 2 (.loop (.seq (Sr [(Mv kK bF), (cB p36 .leq kK 2)] (.cond p36 .skip (.exit 2))) (.seq (.blk 3 (Sr [(.u (.mv bH (K_ 0)))] (.blk 4 (.loop (.seq (Sr [(Mv p39 bH), (Fd p40 p3 0), (L1 p41 p40), (Fd qB p3 0), (L1 lT qB), (dX p44 .mul p41 lT), (dX sS .lss p39 p44)] (.cond sS .skip (.exit 4))) (.seq (.blk 5 (.seq (.drw [(Mv p48 bF), (Mv AU bH), (Fd uG p3 0), (L1 Bt uG), (dX Bs .rem AU Bt), (Mv Bu bH), (Fd p54 p3 0), (L1 p55 p54), (dX p56 .quo Bu p55), (.u (.bld p57 [(.i .i64 0), (.i .i64 0), (.i .i64 0)] [(0, (1, p48)), (1, (1, Bs)), (2, (1, p56))])), (.u (.new bG [(.i .i64 0), (.i .i64 0), (.i .i64 0)])), (.u (.st bG p57 3))] [0, 0, 0, 4, 14, 0, 0, 64, 224, 511, 0, 2047]) (.seq (.drw [(.u (.bsl p58 3 0 [] [])), (Mv p59 p8), (.u (.app p60 3 p58 p59)), (bM Dp bG 3), (.u (.bsl DZ 3 1 [(.i .i64 0), (.i .i64 0), (.i .i64 0)] [(0, (3, Dp))])), (.u (.app p63 3 p60 DZ)), (Cf Gd p31 [p63])] [0, 0, 3, 0, 8, 31, 63]) (.cond Gd (.reg [(Mv Di bD), (bM EA bG 3), (.u (.bsl JQ 3 1 [(.i .i64 0), (.i .i64 0), (.i .i64 0)] [(0, (3, EA))])), (.u (.app JN 3 Di JQ)), (Mv bD JN)]) .skip)))) (.reg [(Mv xB bH), (cB p47 .add xB 1), (Mv bH p47)]))))))) (.reg [(Mv kZ bF), (cB mV .add kZ 1), (Mv bF mV)])))))) (.seq (Sr [(Mv IG bD), (.u (.len p70 IG)), (cB En .eql p70 0)] (.cond En (.exit 0) .skip)) (Sr [(Mv JT bD), (Mv Jv p10), (Mv Iw bD), (.u (.len p75 Iw)), (dX p76 .rem Jv p75), (.u (.ixs p77 3 JT p76)), (bM p78 p77 3), (.u (.new bN [(.i .i64 0), (.i .i64 0), (.i .i64 0)])), (.u (.st bN p78 3))] (Sr [(Mv p79 p8), (bM p80 bN 3), (.u (.bsl p81 3 1 [(.i .i64 0), (.i .i64 0), (.i .i64 0)] [(0, (3, p80))])), (.u (.app p82 3 p79 p81)), (Mv p8 p82)] (Sr [(bM JC p7 5), (.u (.new bO [(.i .i64 0), (.i .i64 0), (.i .i64 0), .ns, .ns])), (.u (.st bO JC 5))] (.seq (Sr [(Mv p84 p10), (cB p85 .quo p84 64), (cB p86 .rem p85 5), (cB p87 .eql p86 0)] (.cond p87 (.reg [(Fd Kn bN 1), (.u (.st Kn (.k (.i .i64 (-1))) 1))]) .skip)) (.seq (Sr [(Mv p89 p10), (cB Hd .quo p89 512), (cB Ii .rem Hd 5), (cB p92 .eql Ii 0)] (.cond p92 (.reg [(Fd p93 bN 2), (.u (.st p93 (.k (.i .i64 (-1))) 1))]) .skip)) (.seq (Sr [(Mv p94 p10), (cB p95 .quo p94 4096), (cB He .rem p95 5), (cB p97 .eql He 0)] (.cond p97 (.reg [(Fd KQ bN 0), (.u (.st KQ (K_ 0) 1))]) .skip)) (.seq (.drw [(.u (.bsl KH 3 0 [] [])), (Fd wR p7 3), (L1 xN wR), (.u (.app pP 3 KH xN)), (bM wI bN 3), (.u (.bsl AQ 3 1 [(.i .i64 0), (.i .i64 0), (.i .i64 0)] [(0, (3, wI))])), (.u (.app p105 3 pP AQ)), (Fd p106 bO 3), (.u (.st p106 p105 1))] [0, 0, 2, 7, 0, 16, 63, 127, 255]) (.seq (Sr [(bM p107 bO 5), (Cf p108 p63 [p107]), (cB p109 .gtr p108 100)] (.cond p109 (.drw [(Fd p110 bO 3), (L1 p111 p110), (Fd p112 bO 3), (L1 p113 p112), (.u (.len p114 p113)), (cB p115 .sub p114 1), (Mv p116 p8), (Mv p117 p8), (.u (.len p118 p117)), (cB p119 .sub p118 1), (.u (.ixs p120 3 p116 p119)), (bM p121 p120 3), (.u (.ixs p122 3 p111 p115)), (.u (.st p122 p121 3))] [0, 1, 0, 4, 12, 28, 0, 0, 128, 384, 960, 1984, 4095, 8191]) .skip)) (.reg [(bM p123 bO 5), (.u (.st p7 p123 5))])))))))))))))) (.reg [(Mv fB p9), (cB eH .add fB 1), (Mv p9 eH)])))))) (.seq (Sr [(.u (.mv bX (K_ 0)))] (.blk 6 (.loop (.seq (Sr [(Mv p124 bX), (Mv p125 p2), (Cf AA p97 [p125, (K_ 10)]), (cB Dg .rem AA 4), (dX Dq .lss p124 Dg)] (.cond Dq .skip (.exit 6))) (.seq (.blk 7 (Sr [(Mv GP p2), (Mv HM bX), (cB Jn .add HM 11), (Cf Mg p97 [GP, Jn]), (Mv bR Mg)] (Sr [(Mv p135 bR), (Mv p136 p8), (.u (.len p137 p136)), (cB p138 .add p137 1), (dX p139 .rem p135 p138), (.u (.bld p140 [(.i .i64 0), (.i .i64 0), (.i .i64 0)] [(0, (1, p139))])), (.u (.new cH [(.i .i64 0), (.i .i64 0), (.i .i64 0)])), (.u (.st cH p140 3))] (Sr [(bM p141 p3 5), (Mv p142 p8), (Fd p143 cH 0), (L1 p144 p143), (Cf p145 p33 [p141, p142, p144]), (Mv cD p145)] (Sr [(Mv Hw cD), (Mv IN bR), (cB IA .quo IN 16), (cB LN .rem IA 8), (dX Bh .sub Hw LN), (.u (.mx KD (K_ 0) Bh)), (Mv Ih cD), (Mv JL bR), (cB KB .quo JL 128), (cB KE .rem KB 8), (dX p156 .add Ih KE), (.u (.mx vO (K_ 0) p156)), (.u (.bld p158 [(.i .i64 0), (.i .i64 0)] [(0, (1, KD)), (1, (1, vO))])), (Fd p159 cH 1), (.u (.st p159 p158 2))] (Sr [(Mv p160 cD), (cB p161 .geq p160 0), (Mv Bj p161), (Gs Bj true Gf (.fad Gf cH 1)), (Gs Bj true Ic (.fad Ic Gf 1)), (Gs Bj true p165 (.ld1 p165 Ic)), (Gs Bj true Gw (.bin Gw .leq p165 (K_ 2000))), (Pa Jr Bj Gw)] (.cond Jr (.reg [(Fd II p7 4), (L1 HX II), (bM Kr cH 3), (.u (.bsl Ko 3 1 [(.i .i64 0), (.i .i64 0), (.i .i64 0)] [(0, (3, Kr))])), (.u (.app In 3 HX Ko)), (Fd Ml p7 4), (.u (.st Ml In 1))]) .skip))))))) (.reg [(Mv Ea bX), (cB FY .add Ea 1), (Mv bX FY)])))))) (Sr [(bM Co p7 5), (Mv Jg p8), (.u (.st p5 Co 5)), (Mv p6 Jg)] .ret)))))))
def UA : List RR := [(.cn p5 5), (.t p6)]
theorem Xs : FnOk Try.prog p54.ix 175 Mq UA := dU Try.f53 Try.func53
def Yv : RC := (Sr [(.u (.box p2 p1)), (.u (.mv p3 (.k (.b false))))] (Sr [(bM p4 p2 5), (Cf p5 p21 [p4]), (Mv p6 p5), (Gs p6 true p7 (.ldn p7 p2 5)), (Gs p6 true p8 (.cf (some p8) p70 [p7])), (Gs p6 true p9 (.bin p9 .eql p8 (K_ 0))), (Pa p10 p6 p9), (Mv p3 p10)] .ret))
def YB : List RR := [(.t p3)]
theorem Xk : FnOk Try.prog p55.ix 10 Yv YB := dU Try.f54 Try.func54
def Yy : RC := (Sr [(.u (.box p4 p2)), (.u (.mv p5 (.k (.b false))))] (Sr [(Mv p6 p1), (Fd p7 p4 0), (L1 p8 p7), (dX p9 .geq p6 p8), (Mv p10 p9), (Gs p10 true bD (.mv bD p1)), (Gs p10 true bF (.fad bF p4 1)), (Gs p10 true bH (.ld1 bH bF)), (Gs p10 true bG (.bin bG .leq bD bH)), (Pa bN p10 bG), (Mv p5 bN)] .ret))
def WU : List RR := [(.t p5)]
theorem WV : FnOk Try.prog p56.ix 15 Yy WU := dU Try.f55 Try.func55
def Wx : RC := (Sr [(.u (.mv p5 (.k (.b false))))] (Sr [(Mv p6 p1), (Cf p7 p36 [p6, (K_ 1), (K_ 3)]), (Mv p8 p7), (Gs p8 true p9 (.mv p9 p1)), (Gs p8 true p10 (.bin p10 .neq p9 (K_ 1))), (Gs p8 true bD (.mv bD p10)), (Gs bD false bF (.mv bF p2)), (Gs p8 true bH (.pick bH bD (.k (.b true)) bF)), (Pa bG p8 bH), (Mv bN bG), (Gs bN true bO (.mv bO p1)), (Gs bN true bX (.bin bX .neq bO (K_ 2))), (Gs bN true bR (.mv bR bX)), (Gs bR false cH (.mv cH p2)), (Gs bR false cD (.un cD .not cH)), (Gs bN true p21 (.pick p21 bR (.k (.b true)) cD)), (Pa p22 bN p21), (Mv p5 p22)] .ret))
def YQ : List RR := [(.t p5)]
theorem Xv : FnOk Try.prog p59.ix 22 Wx YQ := dU Try.f58 Try.func58
def Xb : RC := (Sr [(.u (.box p4 p2)), (.u (.mv p5 (.k (.b false))))] (.seq (Sr [(.u (.mv p6 (K_ 0)))] (.blk 0 (.loop (.seq (Sr [(Mv p7 p6), (Mv p8 p1), (.u (.len p9 p8)), (dX p10 .lss p7 p9)] (.cond p10 .skip (.exit 0))) (.seq (.blk 1 (.seq (.drw [(Mv bH p1), (Mv bG p6), (.u (.ixs bN 3 bH bG)), (bM bO bN 3), (Fd bX p4 0), (L1 bR bX), (Fd cH p4 1), (L1 cD cH), (Fd p21 p4 2), (L1 p22 p21), (.u (.bld p23 [(.i .i64 0), (.i .i64 0), (.i .i64 0)] [(0, (1, bR)), (1, (1, cD)), (2, (1, p22))])), (.u (.eqr p24 false [(.i .i64), (.i .i64), (.i .i64)] bO p23))] [0, 0, 3, 7, 0, 16, 0, 64, 0, 256, 1008, 2047]) (.cond p24 (Sr [(.u (.mv p5 (.k (.b true))))] .ret) .skip))) (.reg [(Mv bD p6), (cB bF .add bD 1), (Mv p6 bF)])))))) (Sr [(.u (.mv p5 (.k (.b false))))] .ret)))
def WE : List RR := [(.t p5)]
theorem YM : FnOk Try.prog p60.ix 24 Xb WE := dU Try.f59 Try.func59
def Xj : RC := (Sr [(.u (.mv p5 (K_ 0)))] (.seq (Sr [(Mv p6 p1), (.u (.len p7 p6)), (cB p8 .eql p7 0)] (.cond p8 (Sr [(.u (.mv p5 (K_ 0)))] .ret) .skip)) (Sr [(Mv p9 p1), (Mv p10 p2), (Mv bD p1), (.u (.len bF bD)), (dX bH .rem p10 bF), (.u (.ixs bG 1 p9 bH)), (L1 bN bG), (.u (.cvi bO .i64 bN)), (Mv p5 bO)] .ret)))
def Xf : List RR := [(.t p5)]
theorem Yz : FnOk Try.prog p97.ix 16 Xj Xf := dU Try.f96 Try.func96
theorem zJ : ∀ {es : List (List D)}, (∀ x ∈ es, FitL [.i .i64, .i .i64, .i .i64] x) -> ∃ l : List Ln, es = aC aI l /\ ∀ r ∈ l, kS r
 | [], _ => ⟨[], rfl, fun r h => by cases h⟩
 | x :: es, h => by
   obtain ⟨l, rfl, hl⟩ := zJ (es := es) fun y hy => h y (by simp [hy])
   have h1 := h x (by simp)
   simp only [FitL, lJ] at h1
   obtain ⟨d, ds, rfl, ⟨n1, rfl, w1⟩, d2, ds2, rfl, ⟨n2, rfl, w2⟩, d3, ds3, rfl, ⟨n3, rfl, w3⟩, rfl⟩ := h1
   refine ⟨⟨n1, n2, n3⟩ :: l, rfl, fun r hr => ?_⟩
   rcases List.mem_cons.1 hr with rfl | hr
   ·exact ⟨Au w1, Au w2, Au w3⟩
   ·exact hl r hr
theorem wH : ∀ {es : List (List D)}, (∀ x ∈ es, FitL [.i .i64, .i .i64, .i .i64] x) -> ∃ l : List Ct, es = aC cY l
 | [], _ => ⟨[], rfl⟩
 | x :: es, h => by
   obtain ⟨l, rfl⟩ := wH (es := es) fun y hy => h y (by simp [hy])
   have h1 := h x (by simp)
   simp only [FitL, lJ] at h1
   obtain ⟨d, ds, rfl, ⟨n1, rfl, w1⟩, d2, ds2, rfl, ⟨n2, rfl, w2⟩, d3, ds3, rfl, ⟨n3, rfl, w3⟩, rfl⟩ := h1
   exact ⟨⟨n1, n2, n3⟩ :: l, rfl⟩
theorem FitP.book {ps : List (Bool × List CK)} {ds : List D} (h : FitP ((true, [.i .i64, .i .i64, .i .i64, .sl [.i .i64, .i .i64, .i .i64], .sl [.i .i64, .i .i64, .i .i64]]) :: ps) ds) : ∃ n coin box ls cs ds', ds = .ag [.i .i64 n, .i .i64 coin, .i .i64 box, .lst 3 (aC aI ls), .lst 3 (aC cY cs)] :: ds' /\ FitP ps ds' := by
 unfold FitP at h
 obtain ⟨es, ds', rfl, h1, h2⟩ := h
 simp only [FitL, lJ] at h1
 obtain ⟨d, ds, rfl, ⟨n1, rfl, _⟩, d2, ds2, rfl, ⟨n2, rfl, _⟩, d3, ds3, rfl, ⟨n3, rfl, _⟩, d4, ds4, rfl, ⟨e4, rfl, k4⟩, d5, ds5, rfl, ⟨e5, rfl, k5⟩, rfl⟩ := h1
 obtain ⟨ls, rfl, _⟩ := zJ fun x hx => by have := k4 x hx; simpa only [FitL, lJ] using this
 obtain ⟨cs, rfl⟩ := wH fun x hx => by have := k5 x hx; simpa only [FitL, lJ] using this
 exact ⟨n1, n2, n3, ls, cs, ds', rfl, h2⟩
set_option maxRecDepth 100000
def wK (n coin box : Int) (ls : List Ln) (cs : List Ct) : Bool := EL n coin box ls cs && decide (aS n coin box ls cs = 0)
theorem MN (n coin box : Int) (ls : List Ln) (cs : List Ct) : PureF Try.prog p55.ix [.ag (CT n coin box ls cs)] (.b (wK n coin box ls cs)) := by
 have iT := PP n coin box ls cs
 have iF := Fi n coin box ls cs
 unfold wK
 refine PureF.run Xk (by simp) (by simp [aO, Pu, CT, aB, aE]) ?_; conv => whnf
 cases hT : EL n coin box ls cs with
 | false =>
   rw [hT] at iT
   repeat' ((first | refine Qz ?_ | refine Qf iT ?_) <;> conv => whnf)
   exact Fin.b rfl rfl
 | true =>
   rw [hT] at iT
   repeat' ((first | refine Qz ?_ | refine Qf iT ?_ | refine Qf iF ?_) <;> conv => whnf)
   exact Fin.b rfl rfl
theorem IC {n coin box : Int} {ls : List Ln} {cs : List Ct} (h : wK n coin box ls cs = true) : ls.length <= 8 /\ cs.length <= 4 /\ aS n coin box ls cs = 0 := by
 unfold wK at h
 rw [Bool.and_eq_true, decide_eq_true_iff] at h
 obtain ⟨f1, f2, _, _⟩ := jJ h.2
 exact ⟨f1, f2, h.2⟩
theorem Kc {A : List Int} (hne : A ≠ []) : A.foldl min (A.getD 0 0) ∈ A /\ A.foldl max (A.getD 0 0) ∈ A := by
 have hA := xT hne
 obtain ⟨a1, a2, a3⟩ := jW A (A.getD 0 0)
 obtain ⟨c1, c2, c3⟩ := jQ A (A.getD 0 0)
 constructor
 ·rcases a3 with h | h
  ·rw [h]; exact hA
  ·exact h
 ·rcases c3 with h | h
  ·rw [h]; exact hA
  ·exact h
def fK (n coin box : Int) (ls : List Ln) (cs : List Ct) : C := .cells false [.o (.i .i64 n) 0, .o (.i .i64 coin) 0, .o (.i .i64 box) 0, .o (.lst 3 (aC aI ls)) 0, .o (.lst 3 (aC cY cs)) 0] 1
theorem aY {n coin box : Int} {ls : List Ln} {cs : List Ct} {B : Pos -> Prop} {ob : T C} : ShC B ob (fK n coin box ls cs) (fK n coin box ls cs) := ShC.same (ShC.cn (.pu trivial) (ShC.cn (.pu trivial) (ShC.cn (.pu trivial) (ShC.cn (.pu (aB _)) (ShC.cn (.pu (aE _)) ShC.nl)))))
theorem Kd {B : Bk} (V : VB B) : lI B = yU B 0 := by
 have h : yI (qP B.ls.length 0) B = B := by
  have hq : ∀ i, (!qP B.ls.length 0 i) = true := fun i => by unfold qP; rw [Nat.zero_testBit]; rfl
  unfold yI
  have e1 : kO (qP B.ls.length 0) B.ls = B.ls := by
   unfold kO
   rw [List.filter_eq_self.2 fun i _ => hq i]
   apply List.ext_getElem (by simp)
   intro i h1 h2
   simp [List.getD, h2]
  have e2 : B.cs.map (qX (qP B.ls.length 0)) = B.cs := by
   rw [List.map_congr_left (g := id)]
   ·exact List.map_id _
   ·intro c hc
    have := V.cs c hc
    unfold qX
    rw [List.filter_eq_self.2 fun i _ => hq i, List.length_range]
    show (⟨_, _, _⟩ : Ct) = c
    rw [Int.toNat_of_nonneg this.1]
  rw [e1, e2]
 unfold yU
 rw [h]
set_option maxRecDepth 1000000
set_option maxRecDepth 100000
set_option maxRecDepth 1000000
set_option maxRecDepth 100000
theorem WSt.app_slEL {sl : T D} {ob : T C} {nx : Pos} {lg : Option (T Bool)} {K : X -> Prop} {d id idy : Pos} {z n st curY : Nat} {roY : Bool} {x y : RX} {ds : List D} (hx : bE sl x = some (.sl id 0 0 0 z)) (hox : ob.get id = some (.cells false [] 1)) (hy : bE sl y = some (.sl idy 0 n st z)) (hoy : ob.get idy = some (.cells roY (ds.map fun d => Cell.o d st) curY)) (hl : ds.length = n * z) (hn : 0 < n) (hmax : n <= 2147483648)
 (h : Gu lg idy fun lg => Lm lg id fun lg => T.setK id (.cells false (ds.map fun d => Cell.o d 1) 2) ob fun ob => dL sl ob nx lg d K (.sl id 0 n 1 z)) : WSt (.app d z x y) ⟨sl, ob, nx, lg⟩ K := by
 obtain ⟨l1, e1, h⟩ := jT h
 obtain ⟨l2, e2, h⟩ := nH h
 rw [T.setK_eq] at h
 obtain ⟨h2, h3⟩ := aV h
 refine ⟨_, ?_, h3⟩
 show fO d z x y sl ob nx lg = _
 unfold fO
 rw [hx, hy]
 have hm : Nat.mul n z = ds.length := hl.symm
 have hm0 : Nat.add 0 (Nat.mul 0 z) = 0 := by show 0 + 0 * z = 0; simp
 obtain ⟨k, rfl⟩ : ∃ k, n = k + 1 := ⟨n - 1, by omega⟩
 have hle : Nat.ble (Nat.add 0 (Nat.succ k)) 2147483648 = true := Nat.ble_eq_true_of_le (by simpa using hmax)
 have hrd : fA (β := X) st (Nat.mul (k + 1) z) (eZ 0 (ds.map fun d => Cell.o d st)) = fun k => k ds := by
  rw [cE, List.drop_zero, hm]
  have key : ∀ (l : List D) (k : List D -> Option X), fA st l.length (l.map fun d => Cell.o d st) k = k l := by
   intro l
   induction l with
   | nil => exact fun k => rfl
   | cons a l ih =>
     intro k
     have e : fA st (a :: l).length ((a :: l).map fun d => Cell.o d st) k = (bif Nat.ble st st then fA st l.length (l.map fun d => Cell.o d st) (fun ds => k (a :: ds)) else none) := rfl
     rw [e, Nat.ble_eq_true_of_le (Nat.le_refl _), cond_true, ih]
  exact funext fun k => key ds k
 simp only [uK, Nat.beq_refl, cond_true, hoy, hrd, wX, e1]
 simp only [Bool.true_and, hle, cond_true, hox, hm0, zI, bP, jG, e2, T.setK_eq]
 have e3 : Nat.add 0 (Nat.succ k) = k + 1 := by show 0 + (k + 1) = k + 1; omega
 rw [e3]
 exact h2
theorem WSt.app_nsE {sl : T D} {ob : T C} {nx : Pos} {lg : Option (T Bool)} {K : X -> Prop} {d id : Pos} {z : Nat} {x y : RX} (hx : bE sl x = some (.sl id 0 0 0 z)) (hox : ob.get id = some (.cells false [] 1)) (hy : bE sl y = some .ns)
 (h : Gu lg id fun lg => dL sl ob nx lg d K (.sl id 0 0 0 z)) : WSt (.app d z x y) ⟨sl, ob, nx, lg⟩ K := by
 obtain ⟨l1, e1, h⟩ := jT h
 obtain ⟨h2, h3⟩ := aV h
 refine ⟨_, ?_, h3⟩
 show fO d z x y sl ob nx lg = _
 unfold fO
 rw [hx, hy]
 simp only [uK, cond_true, wX, hox, Nat.beq_refl, e1]
 exact h2
def qJ (n : Int) : List D := [.i .u16 n]
theorem dD (ws : List Int) : dF (aC qJ ws) := lX (fun l => by simp [qJ, aO, Pu]) ws
def wE (ws : List Int) (k : Nat) : Int := if ws.length = 0 then 0 else ws.getD (k % ws.length) 0
theorem Ba {ws : List Int} (hw : ∀ w ∈ ws, 0 <= w /\ w <= 65535) (k : Nat) : 0 <= wE ws k /\ wE ws k <= 65535 := by
 unfold wE
 split
 ·omega
 ·exact hw _ (bS (d := 0) (Nat.mod_lt _ (by omega)))
theorem AV (ws : List Int) (hw : ∀ w ∈ ws, 0 <= w /\ w <= 65535) (k : Nat) : PureF Try.prog p97.ix [.lst 1 (aC qJ ws), .i .i64 (k : Int)] (.i .i64 (wE ws k)) := by
 have e1 := aD qJ ws
 refine PureF.run Yz (by simp) (by simp [aO, dF, Pu, dD]) ?_; conv => whnf
 by_cases h0 : ws.length = 0
 ·have q0 : Int.ofNat (aC qJ ws).length = 0 := by rw [e1, h0]; rfl
  have hR : wE ws k = 0 := by unfold wE; rw [if_pos h0]
  rw [hR]
  repeat' ((first | refine Qw ?_ | refine Qf e1 ?_ | refine Qv ?_) <;> conv => whnf)
  exact Fin.i rfl rfl
 ·have hR : wE ws k = ws.getD (k % ws.length) 0 := by unfold wE; rw [if_neg h0]
  have hlt : k % ws.length < ws.length := Nat.mod_lt _ (by omega)
  have hb := hw _ (bS (d := 0) hlt)
  have hm : (k : Int).tmod ((aC qJ ws).length : Int) = ((k % ws.length : Nat) : Int) := by
   rw [e1, Int.tmod_eq_emod_of_nonneg (by omega)]; rfl
  rw [hR]
  repeat' ((first | refine Qw ?_ | refine Qf e1 ?_ | refine Qv ?_) <;> conv => whnf)
  rw [hm]
  generalize k % ws.length = m at *
  have hb : 0 <= ws.getD m (default : Int) /\ ws.getD m (default : Int) <= 65535 := hb
  refine WIx.rowsN (f := qJ) hlt ?_; conv => whnf
  repeat' ((first | refine Qw ?_ | refine Qf e1 ?_ | refine Qv ?_) <;> conv => whnf)
  exact Fin.i rfl rfl
end Go.Ev
end
