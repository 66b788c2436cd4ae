import Derived.Test.YtjgbfnciedkafaaEvUJs
import Derived.Test.YtjgbfnciedkafaaEvUJ1
set_option linter.all false
set_option maxHeartbeats 8000000
noncomputable section
namespace Go.Ev
set_option maxRecDepth 100000
structure Ln where
 k : Int
 c : Int
 t : Int
deriving Inhabited
structure Ct where
 a : Int
 lo : Int
 hi : Int
deriving Inhabited
def aI (l : Ln) : List D := [.i .i64 l.k, .i .i64 l.c, .i .i64 l.t]
def cX (c : Ct) : List D := [.i .i64 c.a, .i .i64 c.lo, .i .i64 c.hi]
def CT (n coin box : Int) (ls : List Ln) (cs : List Ct) : List D := [.i .i64 n, .i .i64 coin, .i .i64 box, .lst 3 (aC aI ls), .lst 3 (aC cX cs)]
theorem aB (ls : List Ln) : dE (aC aI ls) := mM (fun l => by simp [aI, aO, Pu]) ls
theorem aE (cs : List Ct) : dE (aC cX cs) := mM (fun l => by simp [cX, aO, Pu]) cs
theorem Fx {B : Pos -> Prop} {ob : T C} {d e : D} (h : Fz B ob d e := by first | exact Fz.pu trivial | (refine Fz.i ?_; first | rfl | omega) | exact .kpt (Ql rfl) | exact .ksl (Ql rfl) | exact .kmp (Ql rfl) | (refine Fz.pu ?_; simp [Cell.d, Pu, aO, dE, aH, aB, aE]; done) | (refine Fz.pu ?_; simp only [Cell.d]; assumption)) : Fz B ob d e := h
theorem Rw {sl sl' : T D} {B : Pos -> Prop} {ob : T C} {f : Pos -> Pos} (h : Rel (RS B ob) f sl sl' := by (repeat' first | exact Rel.e | refine Rel.some ?_ ?_ ?_ | refine Rel.none ?_ ?_ | refine Rel.ee ?_ ?_) <;> first | exact Fy | exact Fz.pu (aH _) | exact Fz.pu (aB _) | exact Fz.pu (aE _)) : Rel (RS B ob) f sl sl' := h
theorem dK (ls : List Ln) : ∀ r ∈ aC aI ls, r.length = 3 := fun r hr => by
 obtain ⟨l, _, rfl⟩ := List.mem_map.1 hr
 rfl
theorem Ja (cs : List Ct) : ∀ r ∈ aC cX cs, r.length = 3 := fun r hr => by
 obtain ⟨l, _, rfl⟩ := List.mem_map.1 hr
 rfl
def qC (l x : Ln) : Bool := (decide (l.k = 0) || decide (l.k = x.k)) && ((decide (l.c < 0) || decide (l.c = x.c)) && (decide (l.t < 0) || decide (l.t = x.t)))
def fY (n a b : Int) : Bool := decide (a <= n /\ n <= b)
theorem aP {n a b : Int} : fY n a b = true ↔ a <= n /\ n <= b := decide_eq_true_iff
def cQ (n : Int) (l : Ln) : Bool := fY l.k 0 2 && (fY l.c (-1) (n - 1) && fY l.t (-1) (n - 1))
def qT (m : Int) (c : Ct) : Bool := fY c.a 0 m && (decide (0 <= c.lo) && (decide (c.lo <= c.hi) && decide (c.hi <= 2000)))
def Aw (l : Ln) : Int := if l.k = 0 then 2 else 1
def zM (n : Int) (l : Ln) : Int := if l.c = -1 then n else 1
def zB (n : Int) (l : Ln) : Int := if l.t = -1 then n else 1
def kT (n : Int) (l : Ln) : Int := Aw l * zM n l * zB n l
theorem nT {n : Int} (h1 : 1 <= n) (h4 : n <= 4) (l : Ln) : 1 <= kT n l /\ kT n l <= 32 := by
 unfold kT Aw zM zB
 have : n = 1 \/ n = 2 \/ n = 3 \/ n = 4 := by omega
 rcases this with rfl | rfl | rfl | rfl <;> split <;> split <;> split <;> omega
def fB (n : Int) (ls : List Ln) : Int := ls.foldl (fun m l => m * kT n l) 1
def eL (n : Int) (ls : List Ln) : Int := ls.foldl (fun m l => min 5000 (m * kT n l)) 1
theorem xC {n : Int} (h1 : 1 <= n) (h4 : n <= 4) : ∀ (ls : List Ln) (p q : Int), 1 <= p -> q = min 5000 p -> ls.foldl (fun m l => min 5000 (m * kT n l)) q = min 5000 (ls.foldl (fun m l => m * kT n l) p) /\ 1 <= ls.foldl (fun m l => m * kT n l) p
 | [], p, q, hp, hq => ⟨hq, hp⟩
 | l :: ls, p, q, hp, hq => by
   obtain ⟨b1, b2⟩ := nT h1 h4 l
   have h0 : 1 <= p * kT n l := by
    have := Int.mul_le_mul hp b1 (by omega) (by omega)
    omega
   refine xC h1 h4 ls (p * kT n l) (min 5000 (q * kT n l)) h0 ?_
   by_cases h : p <= 5000
   ·rw [hq, show min 5000 p = p by omega]
   ·have e : q = 5000 := by omega
    have h2 : (5000 : Int) * 1 <= 5000 * kT n l := Int.mul_le_mul (Int.le_refl _) b1 (by omega) (by omega)
    have h3 : (5000 : Int) * 1 <= p * kT n l := Int.mul_le_mul (by omega) b1 (by omega) (by omega)
    rw [e]
    omega
theorem fQ {n : Int} (h1 : 1 <= n) (h4 : n <= 4) (ls : List Ln) : eL n ls = min 5000 (fB n ls) /\ 1 <= fB n ls := xC h1 h4 ls 1 1 (by omega) (by omega)
theorem BW {n : Int} (h1 : 1 <= n) (h4 : n <= 4) : ∀ (ls : List Ln) (p b : Int), 1 <= p -> p <= b -> ls.foldl (fun m l => m * kT n l) p <= b * 32 ^ ls.length
 | [], p, b, _, h => by simpa using h
 | l :: ls, p, b, hp, h => by
   obtain ⟨b1, b2⟩ := nT h1 h4 l
   have h0 : 1 <= p * kT n l := by
    have := Int.mul_le_mul hp b1 (by omega) (by omega)
    omega
   have h2 : p * kT n l <= b * 32 := Int.mul_le_mul h b2 (by omega) (by omega)
   have := BW h1 h4 ls (p * kT n l) (b * 32) h0 h2
   rw [List.length_cons, Int.pow_succ, show b * (32 ^ ls.length * 32) = b * 32 * 32 ^ ls.length by rw [Int.mul_assoc, Int.mul_comm 32]]
   exact this
def kR (n coin box : Int) (ls : List Ln) (cs : List Ct) : Bool := fY n 1 4 && (fY coin 1 99 && (fY box 0 999 && (ls.all (cQ n) && cs.all (qT ls.length))))
def aS (n coin box : Int) (ls : List Ln) (cs : List Ct) : Int :=
 if 8 < ls.length \/ 4 < cs.length then 3 else if kR n coin box ls cs = true then (if 4096 < eL n ls then 3 else 0) else 1
theorem jJ {n coin box : Int} {ls : List Ln} {cs : List Ct} (h : aS n coin box ls cs = 0) : ls.length <= 8 /\ cs.length <= 4 /\ kR n coin box ls cs = true /\ eL n ls <= 4096 := by
 unfold aS at h
 split at h
 ·cases h
 ·split at h
  ·split at h
   ·cases h
   ·exact ⟨by omega, by omega, by assumption, by omega⟩
  ·cases h
def aZ (T : List Ln) (c : Int) : Nat -> Int
 | 0 => -1
 | i + 1 => if (T.getD i default).c = c then (if (T.getD i default).k = 1 then (i : Int) else -1) else aZ T c i
def bB (T : List Ln) (t : Int) : Nat -> Int
 | 0 => -1
 | i + 1 => if (T.getD i default).t = t then (if (T.getD i default).k = 1 then (i : Int) else -1) else bB T t i
theorem kN (T : List Ln) (c : Int) : ∀ i, -1 <= aZ T c i /\ aZ T c i < i
 | 0 => by show -1 <= (-1 : Int) /\ (-1 : Int) < 0; omega
 | i + 1 => by
   have := kN T c i
   unfold aZ
   split <;> try split
   all_goals omega
theorem kJ (T : List Ln) (c : Int) : ∀ i, -1 <= bB T c i /\ bB T c i < i
 | 0 => by show -1 <= (-1 : Int) /\ (-1 : Int) < 0; omega
 | i + 1 => by
   have := kJ T c i
   unfold bB
   split <;> try split
   all_goals omega
def eD (T : List Ln) (i : Nat) : Bool := (decide (0 <= aZ T (T.getD i default).c i) == decide ((T.getD i default).k = 2)) && (decide (0 <= bB T (T.getD i default).t i) == decide ((T.getD i default).k = 2))
def dW (T : List Ln) : Bool := (List.range T.length).all (eD T)
def cL (box coin : Int) (T : List Ln) : Nat -> Int
 | 0 => box
 | i + 1 => if (T.getD i default).k = 1 then cL box coin T i + coin else cL box coin T i - coin
def gO (T : List Ln) : Nat -> Int
 | 0 => 0
 | i + 1 => gO T i + if (T.getD i default).k = 2 /\ aZ T (T.getD i default).c i ≠ bB T (T.getD i default).t i then 1 else 0
theorem rL {box coin : Int} {T : List Ln} (h1 : 0 <= box /\ box <= 999) (h2 : 1 <= coin /\ coin <= 99) : ∀ i : Nat, -99 * (i : Int) <= cL box coin T i /\ cL box coin T i <= 999 + 99 * (i : Int)
 | 0 => by show -99 * 0 <= box /\ box <= 999 + 99 * 0; omega
 | i + 1 => by
   have := rL (T := T) h1 h2 i
   unfold cL
   split <;> omega
theorem AG {T : List Ln} : ∀ i : Nat, 0 <= gO T i /\ gO T i <= i
 | 0 => by show (0 : Int) <= 0 /\ (0 : Int) <= 0; omega
 | i + 1 => by
   have := AG (T := T) i
   unfold gO
   split <;> omega
def MX (n : Int) (l x : Ln) : Bool := fY x.k 1 2 && (fY x.c 0 (n - 1) && (fY x.t 0 (n - 1) && qC l x))
def iZ (n : Int) (ls T : List Ln) : Bool := decide (T.length = ls.length) && (List.range T.length).all fun i => MX n (ls.getD i default) (T.getD i default)
def vN (box coin : Int) (cs : List Ct) (T : List Ln) : Bool := cs.all fun c => fY (cL box coin T c.a.toNat) c.lo c.hi
structure Mo where
 n : Int
 h : Nat -> Int
 box : Int
 mix : Int
 last : Ln
instance : Inhabited Mo := ⟨⟨0, fun _ => 0, 0, 0, ⟨0, 0, 0⟩⟩⟩
def dH (m : Mo) : List D := [.i .i64 m.n, .i .i64 (m.h 0), .i .i64 (m.h 1), .i .i64 (m.h 2), .i .i64 (m.h 3), .i .i64 (m.h 4), .i .i64 (m.h 5), .i .i64 (m.h 6), .i .i64 (m.h 7), .i .i64 m.box, .i .i64 m.mix, .i .i64 m.last.k, .i .i64 m.last.c, .i .i64 m.last.t]
def pH (h : Nat -> Int) (q : Nat) (v : Int) (i : Nat) : Int := if i = q then v else h i
def mK (coin : Int) (m : Mo) (l : Ln) : Mo × Bool :=
 if l.k = 1 /\ m.h l.c.toNat = 0 /\ m.h (4 + l.t.toNat) = 0 then (⟨m.n + 1, pH (pH m.h l.c.toNat (m.n + 1)) (4 + l.t.toNat) (m.n + 1), m.box + coin, m.mix, l⟩, true)
 else if l.k = 2 /\ m.h l.c.toNat ≠ 0 /\ m.h (4 + l.t.toNat) ≠ 0 then (⟨m.n + 1, pH (pH m.h l.c.toNat 0) (4 + l.t.toNat) 0, m.box - coin, if m.h l.c.toNat ≠ m.h (4 + l.t.toNat) then m.mix + 1 else m.mix, l⟩, true)
 else (⟨m.n + 1, m.h, m.box, m.mix, l⟩, false)
def fI (box coin : Int) (T : List Ln) (i : Nat) : Mo := ⟨(i : Int), fun q => if q < 4 then aZ T (q : Int) i + 1 else bB T ((q - 4 : Nat) : Int) i + 1, cL box coin T i, gO T i, match i with
 | 0 => ⟨0, 0, 0⟩
 | i + 1 => T.getD i default⟩
theorem Fv {box coin : Int} {T : List Ln} {i : Nat} (hk : (T.getD i default).k = 1 \/ (T.getD i default).k = 2) (hc : 0 <= (T.getD i default).c /\ (T.getD i default).c <= 3) (ht : 0 <= (T.getD i default).t /\ (T.getD i default).t <= 3) (hp : eD T i = true) : mK coin (fI box coin T i) (T.getD i default) = (fI box coin T (i + 1), true) := by
 unfold eD at hp
 rw [Bool.and_eq_true, beq_iff_eq, beq_iff_eq] at hp
 obtain ⟨p1, p2⟩ := hp
 have hcN : (((T.getD i default).c.toNat : Nat) : Int) = (T.getD i default).c := by omega
 have htN : (((T.getD i default).t.toNat : Nat) : Int) = (T.getD i default).t := by omega
 have e1 : (fI box coin T i).h (T.getD i default).c.toNat = aZ T (T.getD i default).c i + 1 := by
  show (if (T.getD i default).c.toNat < 4 then _ else _) = _
  rw [if_pos (by omega), hcN]
 have e2 : (fI box coin T i).h (4 + (T.getD i default).t.toNat) = bB T (T.getD i default).t i + 1 := by
  show (if 4 + (T.getD i default).t.toNat < 4 then _ else _) = _
  rw [if_neg (by omega), show 4 + (T.getD i default).t.toNat - 4 = (T.getD i default).t.toNat by omega, htN]
 have b1 := kN T (T.getD i default).c i
 have b2 := kJ T (T.getD i default).t i
 have hext : ∀ v : Int, (∀ c : Int, aZ T c (i + 1) = if (T.getD i default).c = c then v - 1 else aZ T c i) -> (∀ c : Int, bB T c (i + 1) = if (T.getD i default).t = c then v - 1 else bB T c i) -> pH (pH (fI box coin T i).h (T.getD i default).c.toNat v) (4 + (T.getD i default).t.toNat) v = (fI box coin T (i + 1)).h := fun v h1 h2 => by
  funext q
  show (if q = 4 + (T.getD i default).t.toNat then v else if q = (T.getD i default).c.toNat then v else if q < 4 then aZ T (q : Int) i + 1 else bB T ((q - 4 : Nat) : Int) i + 1) = if q < 4 then aZ T (q : Int) (i + 1) + 1 else bB T ((q - 4 : Nat) : Int) (i + 1) + 1
  rw [h1, h2]
  by_cases hq : q < 4
  ·rw [if_neg (show ¬ q = 4 + (T.getD i default).t.toNat by omega), if_pos hq, if_pos hq]
   by_cases hqc : q = (T.getD i default).c.toNat
   ·rw [if_pos hqc, if_pos (by omega)]; omega
   ·rw [if_neg hqc, if_neg (by omega)]
  ·rw [if_neg hq, if_neg hq, if_neg (show ¬ q = (T.getD i default).c.toNat by omega)]
   by_cases hqt : q = 4 + (T.getD i default).t.toNat
   ·rw [if_pos hqt, if_pos (by omega)]; omega
   ·rw [if_neg hqt, if_neg (by omega)]
 unfold mK
 rw [e1, e2]
 rcases hk with hk | hk
 ·have q1 : ¬ 0 <= aZ T (T.getD i default).c i := by
   intro h; rw [decide_eq_true h, hk] at p1; cases p1
  have q2 : ¬ 0 <= bB T (T.getD i default).t i := by
   intro h; rw [decide_eq_true h, hk] at p2; cases p2
  rw [if_pos ⟨hk, by omega, by omega⟩]
  have hh := hext ((i : Int) + 1) (fun c => by
   show (if _ then (if _ then _ else _) else _) = _
   rw [hk, if_pos rfl]
   congr 1; omega) (fun c => by
   show (if _ then (if _ then _ else _) else _) = _
   rw [hk, if_pos rfl]
   congr 1; omega)
  show ((⟨(i : Int) + 1, pH (pH (fI box coin T i).h _ ((i : Int) + 1)) _ ((i : Int) + 1), cL box coin T i + coin, gO T i, T.getD i default⟩, true) : Mo × Bool) = _
  rw [hh]
  have m1 : cL box coin T (i + 1) = cL box coin T i + coin := by
   show (if _ then _ else _) = _
   rw [if_pos hk]
  have m2 : gO T (i + 1) = gO T i := by
   show gO T i + (if _ then _ else _) = _
   rw [if_neg (by rw [hk]; intro h; omega)]; omega
  unfold fI
  simp only [m1, m2]
  rfl
 ·have q1 : 0 <= aZ T (T.getD i default).c i := by
   refine Classical.byContradiction fun h => ?_
   rw [decide_eq_false h, hk] at p1; cases p1
  have q2 : 0 <= bB T (T.getD i default).t i := by
   refine Classical.byContradiction fun h => ?_
   rw [decide_eq_false h, hk] at p2; cases p2
  rw [if_neg (fun h => by omega), if_pos ⟨hk, by omega, by omega⟩]
  have hh := hext 0 (fun c => by
   show (if _ then (if _ then _ else _) else _) = _
   by_cases hcc : (T.getD i default).c = c
   ·rw [if_pos hcc, if_neg (by rw [hk]; decide), if_pos hcc]; rfl
   ·rw [if_neg hcc, if_neg hcc]) (fun c => by
   show (if _ then (if _ then _ else _) else _) = _
   by_cases hcc : (T.getD i default).t = c
   ·rw [if_pos hcc, if_neg (by rw [hk]; decide), if_pos hcc]; rfl
   ·rw [if_neg hcc, if_neg hcc])
  show ((⟨(i : Int) + 1, pH (pH (fI box coin T i).h _ 0) _ 0, cL box coin T i - coin, (if aZ T _ i + 1 ≠ bB T _ i + 1 then gO T i + 1 else gO T i), T.getD i default⟩, true) : Mo × Bool) = _
  rw [hh]
  have m1 : cL box coin T (i + 1) = cL box coin T i - coin := by
   show (if _ then _ else _) = _
   rw [if_neg (by rw [hk]; decide)]
  have m2 : gO T (i + 1) = if aZ T (T.getD i default).c i + 1 ≠ bB T (T.getD i default).t i + 1 then gO T i + 1 else gO T i := by
   show gO T i + (if _ then _ else _) = _
   by_cases h : aZ T (T.getD i default).c i = bB T (T.getD i default).t i
   ·rw [if_neg (fun h' => h'.2 h), if_neg (fun h' => h' (by omega))]; omega
   ·rw [if_pos ⟨hk, h⟩, if_pos (by omega)]
  unfold fI
  simp only [m1, m2]
  rfl
theorem KY {box coin : Int} {T : List Ln} {i : Nat} (hk : (T.getD i default).k = 1 \/ (T.getD i default).k = 2) (hc : 0 <= (T.getD i default).c /\ (T.getD i default).c <= 3) (ht : 0 <= (T.getD i default).t /\ (T.getD i default).t <= 3) (hp : eD T i = false) : (mK coin (fI box coin T i) (T.getD i default)).2 = false := by
 have hcN : (((T.getD i default).c.toNat : Nat) : Int) = (T.getD i default).c := by omega
 have htN : (((T.getD i default).t.toNat : Nat) : Int) = (T.getD i default).t := by omega
 have e1 : (fI box coin T i).h (T.getD i default).c.toNat = aZ T (T.getD i default).c i + 1 := by
  show (if (T.getD i default).c.toNat < 4 then _ else _) = _
  rw [if_pos (by omega), hcN]
 have e2 : (fI box coin T i).h (4 + (T.getD i default).t.toNat) = bB T (T.getD i default).t i + 1 := by
  show (if 4 + (T.getD i default).t.toNat < 4 then _ else _) = _
  rw [if_neg (by omega), show 4 + (T.getD i default).t.toNat - 4 = (T.getD i default).t.toNat by omega, htN]
 have b1 := kN T (T.getD i default).c i
 have b2 := kJ T (T.getD i default).t i
 unfold mK
 rw [e1, e2]
 have hn : ¬ (decide (0 <= aZ T (T.getD i default).c i) = decide ((T.getD i default).k = 2) /\ decide (0 <= bB T (T.getD i default).t i) = decide ((T.getD i default).k = 2)) := fun h => by
  have : eD T i = true := by
   unfold eD
   rw [h.1, h.2]; simp
  rw [this] at hp; cases hp
 split
 ·rename_i h
  exact absurd ⟨by rw [decide_eq_false (by omega), decide_eq_false (by omega)], by rw [decide_eq_false (by omega), decide_eq_false (by omega)]⟩ hn
 ·split
  ·rename_i h
   exact absurd ⟨by rw [decide_eq_true (by omega), decide_eq_true (by omega)], by rw [decide_eq_true (by omega), decide_eq_true (by omega)]⟩ hn
  ·rfl
def AD (n coin box : Int) (ls : List Ln) (cs : List Ct) : C := .cells false [.o (.i .i64 n) 0, .o (.i .i64 coin) 0, .o (.i .i64 box) 0, .o (.lst 3 (aC aI ls)) 0, .o (.lst 3 (aC cX cs)) 0] 1
theorem Bc (n coin box : Int) (ls : List Ln) (cs : List Ct) (m : Nat) : KpC m (AD n coin box ls cs) := by
 refine KpL.all ?_
 simp [KpL, Kp, Cell.d, Pu, aB, aE]
def Lz (l : Ln) : C := .cells false [.o (.i .i64 l.k) 0, .o (.i .i64 l.c) 0, .o (.i .i64 l.t) 0] 1
theorem OO (l : Ln) (m : Nat) : KpC m (Lz l) := by
 refine KpL.all ?_
 simp [KpL, Kp, Cell.d, Pu]
theorem nM (n a b : Int) : PureF Try.prog p36.ix [.i .i64 n, .i .i64 a, .i .i64 b] (.b (fY n a b)) := by
 refine PureF.run YD (by simp) (by simp [aO, dE, Pu]) ?_; conv => whnf
 repeat' ((first | refine Qz ?_ | with_reducible refine WB.dec (fun h => ?_) (fun h => ?_) | with_reducible refine WB.ndec (fun h => ?_) (fun h => ?_) | refine WB.mk (fun h => ?_) (fun h => ?_)) <;> conv => whnf)
 all_goals
  refine Fin.b rfl ?_
  unfold fY
  first
   | exact (decide_eq_false (by omega)).symm
   | (congr 1; apply propext; constructor <;> intro hh <;> omega)
theorem JZ (l x : Ln) : PureF Try.prog p84.ix [.ag (aI l), .ag (aI x)] (.b (qC l x)) := by
 obtain ⟨a, b, c⟩ := l
 obtain ⟨a', b', c'⟩ := x
 refine PureF.run YC (by simp) (by simp [aO, dE, Pu, aI]) ?_; conv => whnf
 repeat' ((first | refine Qz ?_ | with_reducible refine WB.dec (fun h => ?_) (fun h => ?_) | with_reducible refine WB.ndec (fun h => ?_) (fun h => ?_) | refine WB.mk (fun h => ?_) (fun h => ?_)) <;> conv => whnf)
 all_goals exact Fin.b rfl (by unfold qC; simp_all <;> omega)
def sL (n : Int) (l : Ln) (i j : Int) : Nat -> List Ln
 | 0 => []
 | k + 1 => sL n l i j k ++ bif qC l ⟨i, j, (k : Int)⟩ then [⟨i, j, (k : Int)⟩] else []
def gZ (n : Int) (l : Ln) (i : Int) : Nat -> List Ln
 | 0 => []
 | j + 1 => gZ n l i j ++ sL n l i (j : Int) n.toNat
def Bw (n : Int) (l : Ln) : Nat -> List Ln
 | 0 => []
 | i + 1 => Bw n l i ++ gZ n l ((i : Int) + 1) n.toNat
def pL (n : Int) (l : Ln) : List Ln := Bw n l 2
theorem Bm (n : Int) (l : Ln) (i j : Int) : ∀ k, (sL n l i j k).length <= k
 | 0 => Nat.le_refl _
 | k + 1 => by
   have := Bm n l i j k
   unfold sL
   rw [List.length_append]
   cases qC l ⟨i, j, (k : Int)⟩ <;> simp <;> omega
theorem AS (n : Int) (l : Ln) (i : Int) (h4 : n.toNat <= 4) : ∀ j, (gZ n l i j).length <= j * 4
 | 0 => Nat.le_refl _
 | j + 1 => by
   have := AS n l i h4 j
   have := Bm n l i (j : Int) n.toNat
   unfold gZ
   rw [List.length_append]
   omega
theorem Fh (n : Int) (l : Ln) (h4 : n.toNat <= 4) : ∀ i, (Bw n l i).length <= i * 16
 | 0 => Nat.le_refl _
 | i + 1 => by
   have := Fh n l h4 i
   have := AS n l ((i : Int) + 1) h4 n.toNat
   unfold Bw
   rw [List.length_append]
   omega
theorem Jz : ∀ n ∈ [(1 : Int), 2, 3, 4], ∀ k ∈ [(0 : Int), 1, 2], ∀ c ∈ [(-1 : Int), 0, 1, 2, 3], ∀ t ∈ [(-1 : Int), 0, 1, 2, 3], (c < n && t < n) = true -> decide (((pL n ⟨k, c, t⟩).length : Int) = kT n ⟨k, c, t⟩) = true := by decide +kernel
theorem CC {n : Int} {l : Ln} (hn : 1 <= n /\ n <= 4) (hl : cQ n l = true) : ((pL n l).length : Int) = kT n l := by
 obtain ⟨k, c, t⟩ := l
 unfold cQ at hl
 rw [Bool.and_eq_true, Bool.and_eq_true, aP, aP, aP] at hl
 obtain ⟨h1, h2, h3⟩ := hl
 have h1 : 0 <= k /\ k <= 2 := h1
 have h2 : -1 <= c /\ c <= n - 1 := h2
 have h3 : -1 <= t /\ t <= n - 1 := h3
 have mn : n ∈ [(1 : Int), 2, 3, 4] := by
  have : n = 1 \/ n = 2 \/ n = 3 \/ n = 4 := by omega
  rcases this with rfl | rfl | rfl | rfl <;> simp
 have mk : k ∈ [(0 : Int), 1, 2] := by
  have : k = 0 \/ k = 1 \/ k = 2 := by omega
  rcases this with rfl | rfl | rfl <;> simp
 have mc : c ∈ [(-1 : Int), 0, 1, 2, 3] := by
  have : c = -1 \/ c = 0 \/ c = 1 \/ c = 2 \/ c = 3 := by omega
  rcases this with rfl | rfl | rfl | rfl | rfl <;> simp
 have mt : t ∈ [(-1 : Int), 0, 1, 2, 3] := by
  have : t = -1 \/ t = 0 \/ t = 1 \/ t = 2 \/ t = 3 := by omega
  rcases this with rfl | rfl | rfl | rfl | rfl <;> simp
 exact of_decide_eq_true (Jz n mn k mk c mc t mt (by rw [Bool.and_eq_true, decide_eq_true_iff, decide_eq_true_iff]; omega))
def CM (A : List Ln) : List D := (aC aI A).flatten
theorem Fm (A : List Ln) : (CM A).length = A.length * 3 := by
 induction A with
 | nil => rfl
 | cons a A ih => unfold CM aC at *; rw [List.map_cons, List.flatten_cons, List.length_append, ih, List.length_cons]; simp [aI]; omega
theorem Hu (A : List Ln) : aO (CM A) := aF.2 fun d hd => by
 obtain ⟨r, hr, hd⟩ := List.mem_flatten.1 hd
 exact aF.1 (rE.1 (aB A) r hr) d hd
theorem Ci (A : List Ln) (x : Ln) : CM (A ++ [x]) = CM A ++ aI x := by simp [CM, aC]
theorem Jm (n st m : Nat) (A : List Ln) : KpC n (.cells false ((CM A).map fun d => Cell.o d st) m) := fun c hc => by
 obtain ⟨d, hd, rfl⟩ := List.mem_map.1 hc
 obtain ⟨r, hr, hd⟩ := List.mem_flatten.1 hd
 obtain ⟨x, _, rfl⟩ := List.mem_map.1 hr
 simp only [aI, List.mem_cons, List.not_mem_nil, or_false] at hd
 rcases hd with rfl | rfl | rfl <;> simp [Kp, Cell.d, Pu]
def Kw : List Ln -> D
 | [] => .ns
 | _ :: s => .sl (.o (.o .h)) 0 (s.length + 1) s.length 3
def YR : List Ln -> Option C
 | [] => none
 | a :: s => some (.cells false ((CM (a :: s)).map fun d => Cell.o d s.length) (s.length + 1))
def qN : List Ln -> Pos
 | [] => .i .h
 | _ :: _ => .i (.o .h)
def Lh (B L : C) (A : List Ln) : T C := .n (.n (.n .e (YR A) .e) (some L) .e) (some B) .e
theorem Dc (A A' : List Ln) : (qN A).nat <= (qN (A ++ A')).nat := by
 cases A with
 | nil => cases A' <;> simp [qN, Pos.nat]
 | cons a A => simp [qN]
theorem An (A : List Ln) : 3 <= (qN A).nat := by cases A <;> simp [qN, Pos.nat]
theorem DJ (A : List Ln) : Kp (qN A).nat (Kw A) := by
 cases A <;> simp [Kw, qN, Kp, Pos.nat, Pu]
theorem DD {B L : C} (A : List Ln) (hB : ∀ m, KpC m B) (hL : ∀ m, KpC m L) : KpO (qN A).nat (Lh B L A) := by
 cases A with
 | nil =>
   show TAll (fun id c => id.nat < 3 /\ KpC 3 c) _
   unfold Lh YR
   exact TAll.some (TAll.some (TAll.none TAll.e TAll.e) ⟨by simp [Pos.nat], hL _⟩ TAll.e) ⟨by simp [Pos.nat], hB _⟩ TAll.e
 | cons a s =>
   show TAll (fun id c => id.nat < 5 /\ KpC 5 c) _
   unfold Lh YR
   exact TAll.some (TAll.some (TAll.some TAll.e ⟨by simp [Pos.nat], Jm _ _ _ _⟩ TAll.e) ⟨by simp [Pos.nat], hL _⟩ TAll.e) ⟨by simp [Pos.nat], hB _⟩ TAll.e
theorem Dm (n coin box : Int) (ls : List Ln) (cs : List Ct) (l : Ln) (hn : 0 <= n /\ n <= 4) : PureF Try.prog p93.ix [.ag (CT n coin box ls cs), .ag (aI l)] (.lst 3 (aC aI (pL n l))) := by
 have hn0 : ((n.toNat : Nat) : Int) = n := by omega
 have h4 : n.toNat <= 4 := by omega
 obtain ⟨N, hN⟩ : ∃ N : Nat, N = n.toNat := ⟨_, rfl⟩
 have kpB := Bc n coin box ls cs
 have kpL := OO l
 refine PureF.run Wo (by simp) (by simp [aO, dE, Pu, CT, aI, aB, aE]) ?_; conv => whnf
 refine Qg ?_
 refine Rn.loop (fun i : Nat => ⟨(.n (.n (.n .e (some (.pt (.o .h) 0 0)) .e) none (.n .e (some (Kw (Bw n l i))) .e)) none (.n .e (some (.pt .h 0 0)) (.n .e (some (.i .i64 ((i : Int) + 1))) .e))), Lh (AD n coin box ls cs) (Lz l) (Bw n l i), qN (Bw n l i), none⟩) (fun i => i <= 2) (fun i => 2 - i) 0 ?_ ?_ ?_
 ·refine X.le.mk ?_ ?_ (Nat.le_refl _) rfl rfl
  ·exact eK
  ·exact Lw
 ·omega
 intro i hi
 have hi : i <= 2 := hi
 have hiA := Fh n l h4 i
 have Wg : i = 2 -> Bw n l i = pL n l := fun e => by rw [e]; rfl
 have hiN : Bw n l (i + 1) = Bw n l i ++ gZ n l ((i : Int) + 1) n.toNat := rfl
 generalize hA : Bw n l i = A at *
 conv => whnf
 refine Qg ?_
 refine WB.dec (fun h => ?_) (fun h => ?_) <;> conv => whnf
 ·have hi2 : i < 2 := by omega
  refine Qg ?_
  refine Rn.loop (fun j : Nat => ⟨(.n (.n (.n (.n .e (some (.i .i64 (j : Int))) .e) (some (.pt (.o .h) 0 0)) .e) none (.n .e (some (Kw (A ++ gZ n l ((i : Int) + 1) j))) .e)) none (.n .e (some (.pt .h 0 0)) (.n .e (some (.i .i64 ((i : Int) + 1))) .e))), Lh (AD n coin box ls cs) (Lz l) (A ++ gZ n l ((i : Int) + 1) j), qN (A ++ gZ n l ((i : Int) + 1) j), none⟩) (fun j => j <= n.toNat) (fun j => n.toNat - j) 0 ?_ ?_ ?_
  ·have e0 : A ++ gZ n l ((i : Int) + 1) 0 = A := List.append_nil A
   simp only [e0]
   refine X.le.mk ?_ (T.le_refl _) (Nat.le_refl _) rfl rfl
   show T.le ((.n (.n (.n (.n .e (some (.i .i64 0)) .e) (some (.pt (.o .h) 0 0)) .e) none (.n .e (some (Kw A)) .e)) none (.n .e (some (.pt .h 0 0)) (.n .e (some (.i .i64 ((i : Int) + 1))) .e))) : T D) _
   exact eK
  ·exact Nat.zero_le _
  intro j hj
  have hj : j <= n.toNat := hj
  have hjA := AS n l ((i : Int) + 1) h4 j
  have hjE : j = n.toNat -> A ++ gZ n l ((i : Int) + 1) j = Bw n l (i + 1) := fun e => by rw [hiN, e]
  have hjN : A ++ gZ n l ((i : Int) + 1) (j + 1) = (A ++ gZ n l ((i : Int) + 1) j) ++ sL n l ((i : Int) + 1) (j : Int) n.toNat := by
   rw [List.append_assoc]; rfl
  have hBl : (A ++ gZ n l ((i : Int) + 1) j).length <= 1000 := by rw [List.length_append]; omega
  have hupj := Dc A (gZ n l ((i : Int) + 1) j)
  generalize hB : A ++ gZ n l ((i : Int) + 1) j = B at *
  conv => whnf
  refine Qg ?_
  refine WB.dec (fun h => ?_) (fun h => ?_) <;> conv => whnf
  ·have hjn : j < n.toNat := by omega
   refine Qg ?_
   refine Rn.loop (fun k : Nat => ⟨(.n (.n (.n (.n .e (some (.i .i64 (j : Int))) .e) (some (.pt (.o .h) 0 0)) .e) none (.n .e (some (Kw (B ++ sL n l ((i : Int) + 1) (j : Int) k))) .e)) none (.n (.n (.n .e (some (.i .i64 (k : Int))) .e) none .e) (some (.pt .h 0 0)) (.n .e (some (.i .i64 ((i : Int) + 1))) .e))), Lh (AD n coin box ls cs) (Lz l) (B ++ sL n l ((i : Int) + 1) (j : Int) k), qN (B ++ sL n l ((i : Int) + 1) (j : Int) k), none⟩) (fun k => k <= n.toNat) (fun k => n.toNat - k) 0 ?_ ?_ ?_
   ·have e0 : B ++ sL n l ((i : Int) + 1) (j : Int) 0 = B := List.append_nil B
    simp only [e0]
    refine X.le.mk ?_ (T.le_refl _) (Nat.le_refl _) rfl rfl
    show T.le ((.n (.n (.n (.n .e (some (.i .i64 (j : Int))) .e) (some (.pt (.o .h) 0 0)) .e) none (.n .e (some (Kw B)) .e)) none (.n (.n (.n .e (some (.i .i64 0)) .e) none .e) (some (.pt .h 0 0)) (.n .e (some (.i .i64 ((i : Int) + 1))) .e))) : T D) _
    exact eK
   ·exact Nat.zero_le _
   intro k hk
   have hk : k <= n.toNat := hk
   have hkA := Bm n l ((i : Int) + 1) (j : Int) k
   have hkE : k = n.toNat -> B ++ sL n l ((i : Int) + 1) (j : Int) k = A ++ gZ n l ((i : Int) + 1) (j + 1) := fun e => by rw [hjN, e]
   have hkN : B ++ sL n l ((i : Int) + 1) (j : Int) (k + 1) = (B ++ sL n l ((i : Int) + 1) (j : Int) k) ++ bif qC l ⟨(i : Int) + 1, (j : Int), (k : Int)⟩ then [⟨(i : Int) + 1, (j : Int), (k : Int)⟩] else [] := by
    rw [List.append_assoc]; rfl
   have hCl : (B ++ sL n l ((i : Int) + 1) (j : Int) k).length <= 1004 := by rw [List.length_append]; omega
   have hupk := Dc B (sL n l ((i : Int) + 1) (j : Int) k)
   generalize hC : B ++ sL n l ((i : Int) + 1) (j : Int) k = E at *
   have hupE := Dc E
   have hst : ∀ (E' : List Ln), B ++ sL n l ((i : Int) + 1) (j : Int) (k + 1) = E' -> (⟨(.n (.n (.n (.n .e (some (.i .i64 (j : Int))) .e) (some (.pt (.o .h) 0 0)) .e) none (.n .e (some (Kw (B ++ sL n l ((i : Int) + 1) (j : Int) (k + 1)))) .e)) none (.n (.n (.n .e (some (.i .i64 ((k + 1 : Nat) : Int))) .e) none .e) (some (.pt .h 0 0)) (.n .e (some (.i .i64 ((i : Int) + 1))) .e))), Lh (AD n coin box ls cs) (Lz l) (B ++ sL n l ((i : Int) + 1) (j : Int) (k + 1)), qN (B ++ sL n l ((i : Int) + 1) (j : Int) (k + 1)), none⟩ : X) = ⟨(.n (.n (.n (.n .e (some (.i .i64 (j : Int))) .e) (some (.pt (.o .h) 0 0)) .e) none (.n .e (some (Kw E')) .e)) none (.n (.n (.n .e (some (.i .i64 ((k + 1 : Nat) : Int))) .e) none .e) (some (.pt .h 0 0)) (.n .e (some (.i .i64 ((i : Int) + 1))) .e))), Lh (AD n coin box ls cs) (Lz l) E', qN E', none⟩ := fun E' h => by rw [h]
   have cA := JZ l ⟨(i : Int) + 1, (j : Int), (k : Int)⟩
   conv => whnf
   refine Qg ?_
   refine WB.dec (fun h => ?_) (fun h => ?_) <;> conv => whnf
   ·have hkn : k < n.toNat := by omega
    cases hag : qC l ⟨(i : Int) + 1, (j : Int), (k : Int)⟩ with
    | true =>
      rw [hag, cond_true] at hkN
      rw [hag] at cA
      cases E with
      | nil =>
        repeat' ((first | refine Qz ?_ | refine Qf cA ?_) <;> conv => whnf)
        refine WSt.app_first (r := aI ⟨(i : Int) + 1, (j : Int), (k : Int)⟩) rfl (.inl rfl) rfl rfl rfl rfl ?_; conv => whnf
        refine Qg ?_
        refine Again.to (k + 1) (by omega) (by omega) ?_ ?_
        ·show (qN (B ++ sL n l ((i : Int) + 1) (j : Int) k)).nat <= (qN (B ++ sL n l ((i : Int) + 1) (j : Int) (k + 1))).nat
         rw [hC, hkN]; exact hupE _
        ·rw [hst _ hkN]
         refine Shr.of ?_ ?_ rfl rfl
         ·exact Rw
         ·(repeat' first | exact Rel.e | refine Rel.some ?_ ?_ ?_ | refine Rel.none ?_ ?_ | refine Rel.ee ?_ ?_)
          all_goals first
           | exact Ro (ShC.kp (kpB _))
           | exact Ro (ShC.kp (kpL _))
           | exact Ro (ShC.same (ShC.cn (.pu trivial) (ShC.cn (.pu trivial) (ShC.cn (.pu trivial) ShC.nl))))
      | cons a s =>
        repeat' ((first | refine Qz ?_ | refine Qf cA ?_) <;> conv => whnf)
        refine WSt.app_one (ds := CM (a :: s)) (r := aI ⟨(i : Int) + 1, (j : Int), (k : Int)⟩) rfl rfl rfl rfl rfl rfl (by rw [Fm]; rfl) rfl rfl (by simp at hCl; omega) rfl ?_; conv => whnf
        refine Qg ?_
        refine Again.to (k + 1) (by omega) (by omega) ?_ ?_
        ·show (qN (B ++ sL n l ((i : Int) + 1) (j : Int) k)).nat <= (qN (B ++ sL n l ((i : Int) + 1) (j : Int) (k + 1))).nat
         rw [hC, hkN]; exact hupE _
        ·rw [hst _ hkN]
         refine Shr.of ?_ ?_ rfl rfl
         ·show Rel _ _ ((.n (.n (.n (.n .e (some (.i .i64 (j : Int))) .e) (some (.pt (.o .h) 0 0)) .e) none (.n .e (some (.sl (.o (.o .h)) 0 ((s ++ [(⟨(i : Int) + 1, (j : Int), (k : Int)⟩ : Ln)]).length + 1) (s ++ [(⟨(i : Int) + 1, (j : Int), (k : Int)⟩ : Ln)]).length 3)) .e)) none (.n (.n (.n .e (some (.i .i64 ((k + 1 : Nat) : Int))) .e) none .e) (some (.pt .h 0 0)) (.n .e (some (.i .i64 ((i : Int) + 1))) .e))) : T D) _
          rw [List.length_append, List.length_singleton]
          exact Rw
         ·show Rel _ _ (T.n (.n (.n .e (some (.cells false ((CM ((a :: s) ++ [(⟨(i : Int) + 1, (j : Int), (k : Int)⟩ : Ln)])).map fun d => Cell.o d (s ++ [(⟨(i : Int) + 1, (j : Int), (k : Int)⟩ : Ln)]).length) ((s ++ [(⟨(i : Int) + 1, (j : Int), (k : Int)⟩ : Ln)]).length + 1))) .e) (some (Lz l)) .e) (some (AD n coin box ls cs)) .e : T C) _
          rw [List.length_append, List.length_singleton, Ci]
          (repeat' first | exact Rel.e | refine Rel.some ?_ ?_ ?_ | refine Rel.none ?_ ?_ | refine Rel.ee ?_ ?_)
          all_goals first
           | exact Ro (ShC.kp (kpB _))
           | exact Ro (ShC.kp (kpL _))
           | (refine Ro ?_
              refine ShC.grown (by omega) (aF.2 fun d hd => ?_)
              rcases List.mem_append.1 hd with hd | hd
              ·exact aF.1 (Hu _) d hd
              ·simp only [aI, List.mem_cons, List.mem_nil_iff, or_false] at hd
               rcases hd with rfl | rfl | rfl <;> exact trivial)
    | false =>
      rw [hag, cond_false, List.append_nil] at hkN
      rw [hag] at cA
      repeat' ((first | refine Qz ?_ | refine Qf cA ?_) <;> conv => whnf)
      refine Again.to (k + 1) (by omega) (by omega) ?_ ?_
      ·show (qN (B ++ sL n l ((i : Int) + 1) (j : Int) k)).nat <= (qN (B ++ sL n l ((i : Int) + 1) (j : Int) (k + 1))).nat
       rw [hC, hkN]; exact Nat.le_refl _
      ·rw [hst _ hkN]
       refine Shr.kp2 ?_ ?_ (T.le_refl _) (DD E kpB kpL)
       ·exact eK
       ·have h3 := An E
        show TAll (fun _ d => Kp (qN E).nat d) _
        repeat' first | exact TAll.e | refine TAll.some ?_ ?_ ?_ | refine TAll.none ?_ ?_
        all_goals first | exact DJ E | (simp [Kp, Pu, Pos.nat]; done) | (simp [Kp, Pos.nat]; omega)
   ·have he := hkE (by omega)
    refine Qg ?_
    refine Again.to (j + 1) (by omega) (by omega) ?_ ?_
    ·show (qN (A ++ gZ n l ((i : Int) + 1) j)).nat <= (qN (A ++ gZ n l ((i : Int) + 1) (j + 1))).nat
     rw [hB, <- he]; exact hupk
    ·show Shr _ (⟨(.n (.n (.n (.n .e (some (.i .i64 ((j + 1 : Nat) : Int))) .e) (some (.pt (.o .h) 0 0)) .e) none (.n .e (some (Kw (A ++ gZ n l ((i : Int) + 1) (j + 1)))) .e)) none (.n .e (some (.pt .h 0 0)) (.n .e (some (.i .i64 ((i : Int) + 1))) .e))), Lh (AD n coin box ls cs) (Lz l) (A ++ gZ n l ((i : Int) + 1) (j + 1)), qN (A ++ gZ n l ((i : Int) + 1) (j + 1)), none⟩)
     rw [<- he]
     refine Shr.kp2 ?_ ?_ (T.le_refl _) (DD E kpB kpL)
     ·exact eK
     ·have h3 := An E
      show TAll (fun _ d => Kp (qN E).nat d) _
      repeat' first | exact TAll.e | refine TAll.some ?_ ?_ ?_ | refine TAll.none ?_ ?_
      all_goals first | exact DJ E | (simp [Kp, Pu, Pos.nat]; done) | (simp [Kp, Pos.nat]; omega)
  ·have he := hjE (by omega)
   refine Qg ?_
   refine Again.to (i + 1) (by omega) (by omega) ?_ ?_
   ·show (qN (Bw n l i)).nat <= (qN (Bw n l (i + 1))).nat
    rw [hA, <- he]; exact hupj
   ·show Shr _ (⟨(.n (.n (.n .e (some (.pt (.o .h) 0 0)) .e) none (.n .e (some (Kw (Bw n l (i + 1)))) .e)) none (.n .e (some (.pt .h 0 0)) (.n .e (some (.i .i64 (((i + 1 : Nat) : Int) + 1))) .e))), Lh (AD n coin box ls cs) (Lz l) (Bw n l (i + 1)), qN (Bw n l (i + 1)), none⟩)
    rw [<- he]
    refine Shr.kp2 ?_ ?_ (T.le_refl _) (DD B kpB kpL)
    ·exact eK
    ·have h3 := An B
     show TAll (fun _ d => Kp (qN B).nat d) _
     repeat' first | exact TAll.e | refine TAll.some ?_ ?_ ?_ | refine TAll.none ?_ ?_
     all_goals first | exact DJ B | (simp [Kp, Pu, Pos.nat]; done) | (simp [Kp, Pos.nat]; omega)
 ·refine Qg ?_
  have he := Wg (by omega)
  subst he
  refine Fin.t (.inr rfl) rfl ?_
  cases hT : pL n l with
  | nil => exact .ns
  | cons a s =>
    exact Frz.whole (cs := (CM (a :: s)).map fun d => Cell.o d s.length) (cur := s.length + 1) rfl (by simp [aC]) (dK _) rfl (aB _)
theorem kQ {α : Type} {β : Type} (g : β -> α -> β) (b : β) {l : List α} {j : Nat} {d : α} (h : j < l.length) : (l.take (j + 1)).foldl g b = g ((l.take j).foldl g b) (l.getD j d) := by
 rw [aM (d := d) h, List.foldl_append]; rfl
theorem Ac (n coin box : Int) (ls : List Ln) (cs : List Ct) (hn : 1 <= n /\ n <= 4) (hl : ls.length <= 1000) (hok : ls.all (cQ n) = true) : PureF Try.prog p63.ix [.ag (CT n coin box ls cs)] (.i .i64 (eL n ls)) := by
 have e1 := aD aI ls
 refine PureF.run XI (by simp) (by simp [aO, dE, Pu, CT, aB, aE]) ?_; conv => whnf
 refine Qg ?_
 refine Rn.loop (fun j : Nat => ⟨(.n (.n (.n .e (some (.i .i64 (eL n (ls.take j)))) .e) (some (.pt .h 0 0)) .e) none (.n (.n .e (some (.i .i64 (j : Int))) .e) none .e)), (.n .e (some (AD n coin box ls cs)) .e), .o .h, none⟩) (fun j => j <= ls.length) (fun j => ls.length - j) 0 ?_ ?_ ?_
 ·refine X.le.mk ?_ ?_ (Nat.le_refl _) rfl rfl
  ·exact eK
  ·exact Lw
 ·exact Nat.zero_le _
 intro j hj
 have hj : j <= ls.length := hj
 have hmp := fQ hn.1 hn.2 (ls.take j)
 conv => whnf
 refine Qg ?_
 refine WB.dec (fun h => ?_) (fun h => ?_) <;> conv => whnf
 ·have hlt : j < ls.length := by omega
  have hs : eL n (ls.take (j + 1)) = min 5000 (eL n (ls.take j) * kT n (ls.getD j default)) := kQ _ _ hlt
  have hlo := List.all_eq_true.1 hok _ (bT (d := default) hlt)
  have hrl := CC hn hlo
  have hrb := nT hn.1 hn.2 (ls.getD j default)
  have er := aD aI (pL n (ls.getD j default))
  have cR := Dm n coin box ls cs (ls.getD j default) (by omega)
  have hm1 : 1 <= eL n (ls.take j) /\ eL n (ls.take j) <= 5000 := by omega
  have hmul : 1 <= eL n (ls.take j) * kT n (ls.getD j default) /\ eL n (ls.take j) * kT n (ls.getD j default) <= 160000 := by
   have a1 := Int.mul_le_mul hm1.1 hrb.1 (by omega) (by omega)
   have a2 := Int.mul_le_mul hm1.2 hrb.2 (by omega) (by omega)
   omega
  have hmul2 : eL n (ls.take j) * ((aC aI (pL n (ls.getD j default))).length : Int) = eL n (ls.take j) * kT n (ls.getD j default) := by rw [er, hrl]
  repeat' ((first | refine Qz ?_ | refine Qf cR ?_) <;> conv => whnf)
  refine Again.to (j + 1) (by omega) (by omega) (Nat.le_refl _) ?_
  rw [hs]
  refine Shr.of ?_ ?_ rfl rfl
  ·(repeat' first | exact Rel.e | refine Rel.some ?_ ?_ ?_ | refine Rel.none ?_ ?_ | refine Rel.ee ?_ ?_)
   all_goals show Fz _ _ _ _
   all_goals first | exact Fy | (refine Fz.i ?_; rw [hmul2])
  ·(repeat' first | exact Rel.e | refine Rel.some ?_ ?_ ?_ | refine Rel.none ?_ ?_ | refine Rel.ee ?_ ?_)
   exact Ro (ShC.kp (Bc _ _ _ _ _ _))
 ·refine Qg ?_
  exact Fin.i rfl (by rw [List.take_of_length_le (by omega)])
theorem lO {n coin box : Int} {ls : List Ln} {cs : List Ct} (hlim : ¬ (8 < ls.length \/ 4 < cs.length)) (hv : kR n coin box ls cs = false) : aS n coin box ls cs = 1 := by
 unfold aS
 rw [if_neg hlim, hv]; rfl
theorem QZ {n coin box : Int} {ls : List Ln} {cs : List Ct} {j : Nat} (hj : j < ls.length) (h : cQ n (ls.getD j default) = false) : kR n coin box ls cs = false := by
 have : ls.all (cQ n) = false := by
  rw [List.all_eq_false]
  exact ⟨_, bT (d := default) hj, by rw [h]; simp⟩
 unfold kR
 rw [this]; simp
theorem Pp {n coin box : Int} {ls : List Ln} {cs : List Ct} {j : Nat} (hj : j < cs.length) (h : qT ls.length (cs.getD j default) = false) : kR n coin box ls cs = false := by
 have : cs.all (qT ls.length) = false := by
  rw [List.all_eq_false]
  exact ⟨_, bT (d := default) hj, by rw [h]; simp⟩
 unfold kR
 rw [this]; simp
theorem FO (n coin box : Int) (ls : List Ln) (cs : List Ct) : PureF Try.prog p70.ix [.ag (CT n coin box ls cs)] (.i .i64 (aS n coin box ls cs)) := by
 have e1 := aD aI ls
 have e2 := aD cX cs
 have kpB := Bc n coin box ls cs
 refine PureF.run Xh (by simp) (by simp [aO, dE, Pu, CT, aB, aE]) ?_; conv => whnf
 by_cases hlim : 8 < ls.length \/ 4 < cs.length
 ·have hf : aS n coin box ls cs = 3 := by unfold aS; rw [if_pos hlim]
  rw [hf]
  rcases hlim with hlim | hlim
  ·repeat' ((first | refine Qw ?_ | refine Qd (fun h => ?_) (fun h => ?_)) <;> conv => whnf)
   all_goals first | exact Fin.i rfl rfl | (exfalso; omega)
  ·by_cases h8 : 8 < ls.length
   ·repeat' ((first | refine Qw ?_ | refine Qd (fun h => ?_) (fun h => ?_)) <;> conv => whnf)
    all_goals first | exact Fin.i rfl rfl | (exfalso; omega)
   ·repeat' ((first | refine Qw ?_ | refine Qd (fun h => ?_) (fun h => ?_)) <;> conv => whnf)
    all_goals first | exact Fin.i rfl rfl | (exfalso; omega)
 have h8 : ¬ 8 < ls.length := fun h => hlim (.inl h)
 have h4 : ¬ 4 < cs.length := fun h => hlim (.inr h)
 cases b1 : fY n 1 4 with
 | false =>
   have c1 := nM n 1 4
   rw [b1] at c1
   have hf := lO (n := n) (coin := coin) (box := box) hlim (by unfold kR; rw [b1]; rfl)
   repeat' ((first | refine Qw ?_ | refine Qf c1 ?_ | refine Qd (fun h => ?_) (fun h => ?_)) <;> conv => whnf)
   all_goals first | exact Fin.i rfl hf.symm | (exfalso; omega)
 | true =>
 cases b2 : fY coin 1 99 with
 | false =>
   have c1 := nM n 1 4
   have c2 := nM coin 1 99
   rw [b1] at c1
   rw [b2] at c2
   have hf := lO (n := n) (coin := coin) (box := box) hlim (by unfold kR; rw [b1, b2]; rfl)
   repeat' ((first | refine Qw ?_ | refine Qf c1 ?_ | refine Qf c2 ?_ | refine Qd (fun h => ?_) (fun h => ?_)) <;> conv => whnf)
   all_goals first | exact Fin.i rfl hf.symm | (exfalso; omega)
 | true =>
 cases b3 : fY box 0 999 with
 | false =>
   have c1 := nM n 1 4
   have c2 := nM coin 1 99
   have c3 := nM box 0 999
   rw [b1] at c1
   rw [b2] at c2
   rw [b3] at c3
   have hf := lO (n := n) (coin := coin) (box := box) hlim (by unfold kR; rw [b1, b2, b3]; rfl)
   repeat' ((first | refine Qw ?_ | refine Qf c1 ?_ | refine Qf c2 ?_ | refine Qf c3 ?_ | refine Qd (fun h => ?_) (fun h => ?_)) <;> conv => whnf)
   all_goals first | exact Fin.i rfl hf.symm | (exfalso; omega)
 | true =>
 have c1 := nM n 1 4
 have c2 := nM coin 1 99
 have c3 := nM box 0 999
 rw [b1] at c1
 rw [b2] at c2
 rw [b3] at c3
 have hn := aP.1 b1
 repeat' ((first | refine Qw ?_ | refine Qf c1 ?_ | refine Qf c2 ?_ | refine Qf c3 ?_ | refine Qd (fun h => ?_) (fun h => ?_)) <;> conv => whnf)
 refine Rn.loop (fun j : Nat => ⟨(.n (.n (.n .e (some (.i .i64 (j : Int))) .e) (some (.pt .h 0 0)) .e) none .e), (.n .e (some (AD n coin box ls cs)) .e), .o .h, none⟩) (fun j => j <= ls.length /\ (ls.take j).all (cQ n) = true) (fun j => ls.length - j) 0 ?_ ?_ ?_
 ·refine X.le.mk ?_ ?_ (Nat.le_refl _) rfl rfl
  ·exact eK
  ·exact Lw
 ·exact ⟨Nat.zero_le _, rfl⟩
 rintro j ⟨hj, ha⟩
 conv => whnf
 refine Qg ?_
 refine WB.dec (fun h => ?_) (fun h => ?_) <;> conv => whnf
 ·have hlt : j < ls.length := by omega
  obtain ⟨x, hx⟩ : ∃ x, x = ls.getD j default := ⟨_, rfl⟩
  have d1 := nM x.k 0 2
  have d2 := nM x.c (-1) (n - 1)
  have d3 := nM x.t (-1) (n - 1)
  have hbad : cQ n x = false -> aS n coin box ls cs = 1 := fun h => lO hlim (QZ hlt (by rw [<- hx]; exact h))
  have hgood : cQ n x = true -> (ls.take (j + 1)).all (cQ n) = true := fun h => by
   rw [aM (d := default) hlt, List.all_append, ha, <- hx]
   simp [h]
  have hok : cQ n x = (fY x.k 0 2 && (fY x.c (-1) (n - 1) && fY x.t (-1) (n - 1))) := rfl
  have hst : ∀ (sl : T D) (ob : T C) (nx : Pos), T.le ((.n (.n (.n .e (some (.i .i64 ((j + 1 : Nat) : Int))) .e) (some (.pt .h 0 0)) .e) none .e) : T D) sl -> T.le ((.n .e (some (AD n coin box ls cs)) .e) : T C) ob -> Shr ⟨sl, ob, nx, none⟩ ⟨(.n (.n (.n .e (some (.i .i64 ((j + 1 : Nat) : Int))) .e) (some (.pt .h 0 0)) .e) none .e), (.n .e (some (AD n coin box ls cs)) .e), .o .h, none⟩ := fun sl ob nx hs ho => by
   refine Shr.kp2 hs ?_ ho ?_
   ·show TAll (fun _ d => Kp 2 d) _
    repeat' first | exact TAll.e | refine TAll.some ?_ ?_ ?_ | refine TAll.none ?_ ?_
    all_goals simp [Kp, Pu, Pos.nat]
   ·show TAll (fun id c => id.nat < 2 /\ KpC 2 c) _
    exact TAll.some TAll.e ⟨by simp [Pos.nat], kpB _⟩ TAll.e
  rw [hx] at d1 d2 d3
  cases q1 : fY (ls.getD j default).k 0 2 with
  | false =>
    rw [q1] at d1
    have hf := hbad (by rw [hok, hx, q1]; rfl)
    repeat' ((first | refine Qw ?_ | refine Qf d1 ?_ | refine Qd (fun h => ?_) (fun h => ?_)) <;> conv => whnf)
    exact Fin.i rfl hf.symm
  | true =>
  cases q2 : fY (ls.getD j default).c (-1) (n - 1) with
  | false =>
    rw [q1] at d1
    rw [q2] at d2
    have hf := hbad (by rw [hok, hx, q1, q2]; rfl)
    repeat' ((first | refine Qw ?_ | refine Qf d1 ?_ | refine Qf d2 ?_ | refine Qd (fun h => ?_) (fun h => ?_)) <;> conv => whnf)
    exact Fin.i rfl hf.symm
  | true =>
  cases q3 : fY (ls.getD j default).t (-1) (n - 1) with
  | false =>
    rw [q1] at d1
    rw [q2] at d2
    rw [q3] at d3
    have hf := hbad (by rw [hok, hx, q1, q2, q3]; rfl)
    repeat' ((first | refine Qw ?_ | refine Qf d1 ?_ | refine Qf d2 ?_ | refine Qf d3 ?_ | refine Qd (fun h => ?_) (fun h => ?_)) <;> conv => whnf)
    exact Fin.i rfl hf.symm
  | true =>
    rw [q1] at d1
    rw [q2] at d2
    rw [q3] at d3
    have hg := hgood (by rw [hok, hx, q1, q2, q3]; rfl)
    repeat' ((first | refine Qw ?_ | refine Qf d1 ?_ | refine Qf d2 ?_ | refine Qf d3 ?_ | refine Qd (fun h => ?_) (fun h => ?_)) <;> conv => whnf)
    refine Again.to (j + 1) (by omega) ⟨by omega, hg⟩ (Nat.le_refl _) (hst _ _ _ ?_ ?_)
    ·exact eK
    ·exact Lw
 have hall : ls.all (cQ n) = true := by rwa [List.take_of_length_le (by omega)] at ha
 refine Qg ?_
 refine Rn.loop (fun j : Nat => ⟨(.n (.n .e (some (.pt .h 0 0)) (.n .e (some (.i .i64 (j : Int))) .e)) none .e), (.n .e (some (AD n coin box ls cs)) .e), .o .h, none⟩) (fun j => j <= cs.length /\ (cs.take j).all (qT ls.length) = true) (fun j => cs.length - j) 0 ?_ ?_ ?_
 ·refine X.le.mk ?_ ?_ (Nat.le_refl _) rfl rfl
  ·exact eK
  ·exact Lw
 ·exact ⟨Nat.zero_le _, rfl⟩
 rintro q ⟨hq, hb⟩
 conv => whnf
 refine Qg ?_
 refine WB.dec (fun h => ?_) (fun h => ?_) <;> conv => whnf
 ·have hlt : q < cs.length := by omega
  have d1 := nM (cs.getD q default).a 0 ((aC aI ls).length : Int)
  have hbad : qT ls.length (cs.getD q default) = false -> aS n coin box ls cs = 1 := fun h => lO hlim (Pp hlt h)
  have hgood : qT ls.length (cs.getD q default) = true -> (cs.take (q + 1)).all (qT ls.length) = true := fun h => by
   rw [aM (d := default) hlt, List.all_append, hb, Bool.true_and, List.all_cons, List.all_nil, Bool.and_true]
   exact h
  have hok : qT ls.length (cs.getD q default) = (fY (cs.getD q default).a 0 ((aC aI ls).length : Int) && (decide (0 <= (cs.getD q default).lo) && (decide ((cs.getD q default).lo <= (cs.getD q default).hi) && decide ((cs.getD q default).hi <= 2000)))) := by rw [e1]; rfl
  have hst : ∀ (sl : T D) (ob : T C) (nx : Pos), T.le ((.n (.n .e (some (.pt .h 0 0)) (.n .e (some (.i .i64 ((q + 1 : Nat) : Int))) .e)) none .e) : T D) sl -> T.le ((.n .e (some (AD n coin box ls cs)) .e) : T C) ob -> Shr ⟨sl, ob, nx, none⟩ ⟨(.n (.n .e (some (.pt .h 0 0)) (.n .e (some (.i .i64 ((q + 1 : Nat) : Int))) .e)) none .e), (.n .e (some (AD n coin box ls cs)) .e), .o .h, none⟩ := fun sl ob nx hs ho => by
   refine Shr.kp2 hs ?_ ho ?_
   ·show TAll (fun _ d => Kp 2 d) _
    repeat' first | exact TAll.e | refine TAll.some ?_ ?_ ?_ | refine TAll.none ?_ ?_
    all_goals simp [Kp, Pu, Pos.nat]
   ·show TAll (fun id c => id.nat < 2 /\ KpC 2 c) _
    exact TAll.some TAll.e ⟨by simp [Pos.nat], kpB _⟩ TAll.e
  cases q1 : fY (cs.getD q default).a 0 ((aC aI ls).length : Int) with
  | false =>
    rw [q1] at d1
    have hf := hbad (by rw [hok, q1]; rfl)
    repeat' ((first | refine Qw ?_ | refine Qf d1 ?_ | refine Qd (fun h => ?_) (fun h => ?_)) <;> conv => whnf)
    exact Fin.i rfl hf.symm
  | true =>
  rw [q1] at d1
  rw [q1, Bool.true_and] at hok
  by_cases k1 : 0 <= (cs.getD q default).lo
  ·by_cases k2 : (cs.getD q default).lo <= (cs.getD q default).hi
   ·by_cases k3 : (cs.getD q default).hi <= 2000
    ·have hg := hgood (by rw [hok, decide_eq_true k1, decide_eq_true k2, decide_eq_true k3]; rfl)
     repeat' ((first | refine Qw ?_ | refine Qf d1 ?_ | refine Qd (fun h => ?_) (fun h => ?_)) <;> conv => whnf)
     refine Again.to (q + 1) (by omega) ⟨by omega, hg⟩ (Nat.le_refl _) (hst _ _ _ ?_ ?_)
     ·exact eK
     ·exact Lw
    ·have hf := hbad (by rw [hok, decide_eq_true k1, decide_eq_true k2, decide_eq_false k3]; rfl)
     repeat' ((first | refine Qw ?_ | refine Qf d1 ?_ | refine Qd (fun h => ?_) (fun h => ?_)) <;> conv => whnf)
     all_goals exact Fin.i rfl hf.symm
   ·have hf := hbad (by rw [hok, decide_eq_true k1, decide_eq_false k2]; rfl)
    repeat' ((first | refine Qw ?_ | refine Qf d1 ?_ | refine Qd (fun h => ?_) (fun h => ?_)) <;> conv => whnf)
    all_goals exact Fin.i rfl hf.symm
  ·have hf := hbad (by rw [hok, decide_eq_false k1]; rfl)
   repeat' ((first | refine Qw ?_ | refine Qf d1 ?_ | refine Qd (fun h => ?_) (fun h => ?_)) <;> conv => whnf)
   all_goals exact Fin.i rfl hf.symm
 have hallc : cs.all (qT ls.length) = true := by rwa [List.take_of_length_le (by omega)] at hb
 have cM := Ac n coin box ls cs hn (by omega) hall
 have hf : aS n coin box ls cs = if 4096 < eL n ls then 3 else 0 := by
  unfold aS
  rw [if_neg hlim, if_pos (by unfold kR; rw [b1, b2, b3, hall, hallc]; rfl)]
 by_cases hm : 4096 < eL n ls
 ·rw [if_pos hm] at hf
  repeat' ((first | refine Qw ?_ | refine Qf cM ?_ | refine Qd (fun h => ?_) (fun h => ?_)) <;> conv => whnf)
  all_goals exact Fin.i rfl hf.symm
 ·rw [if_neg hm] at hf
  repeat' ((first | refine Qw ?_ | refine Qf cM ?_ | refine Qd (fun h => ?_) (fun h => ?_)) <;> conv => whnf)
  all_goals exact Fin.i rfl hf.symm
def Eo (n coin box : Int) (ls : List Ln) (cs : List Ct) : Bool := decide (ls.length <= 10) && (decide (cs.length <= 6) && (!decide (aS n coin box ls cs = 0) || decide (eL n ls <= 100)))
theorem PT (n coin box : Int) (ls : List Ln) (cs : List Ct) : PureF Try.prog p21.ix [.ag (CT n coin box ls cs)] (.b (Eo n coin box ls cs)) := by
 have e1 := aD aI ls
 have e2 := aD cX cs
 have cF := FO n coin box ls cs
 have ht : Eo n coin box ls cs = (decide (ls.length <= 10) && (decide (cs.length <= 6) && (!decide (aS n coin box ls cs = 0) || decide (eL n ls <= 100)))) := rfl
 refine PureF.run Yj (by simp) (by simp [aO, dE, Pu, CT, aB, aE]) ?_; conv => whnf
 by_cases h1 : ls.length <= 10
 ·by_cases h2 : cs.length <= 6
  ·rw [decide_eq_true h1, decide_eq_true h2, Bool.true_and, Bool.true_and] at ht
   rw [ht]
   by_cases hf : aS n coin box ls cs = 0
   ·obtain ⟨f1, f2, f3, f4⟩ := jJ hf
    have f3' := f3
    unfold kR at f3'
    simp only [Bool.and_eq_true] at f3'
    have cM := Ac n coin box ls cs (aP.1 f3'.1) (by omega) f3'.2.2.2.1
    rw [hf] at cF ⊢
    by_cases hm : eL n ls <= 100
    ·repeat' ((first | refine Qw ?_ | refine Qf cF ?_ | refine Qf cM ?_ | refine Qd (fun h => ?_) (fun h => ?_)) <;> conv => whnf)
     all_goals exact Fin.b rfl (by simp [hm])
    ·repeat' ((first | refine Qw ?_ | refine Qf cF ?_ | refine Qf cM ?_ | refine Qd (fun h => ?_) (fun h => ?_)) <;> conv => whnf)
     all_goals exact Fin.b rfl (by simp [hm])
   ·repeat' ((first | refine Qw ?_ | refine Qf cF ?_ | refine Qd (fun h => ?_) (fun h => ?_)) <;> conv => whnf)
    all_goals exact Fin.b rfl (by simp [hf])
  ·rw [decide_eq_false h2, Bool.false_and, Bool.and_false] at ht
   rw [ht]
   repeat' ((first | refine Qw ?_ | refine Qf cF ?_ | refine Qd (fun h => ?_) (fun h => ?_)) <;> conv => whnf)
   all_goals exact Fin.b rfl (by first | rfl | (exact decide_eq_false (by omega)))
 ·rw [decide_eq_false h1, Bool.false_and] at ht
  rw [ht]
  repeat' ((first | refine Qw ?_ | refine Qf cF ?_ | refine Qd (fun h => ?_) (fun h => ?_)) <;> conv => whnf)
  all_goals exact Fin.b rfl (by first | rfl | (exact decide_eq_false (by omega)))
theorem WB.fF {t : Bool} {F : Bool -> Prop} (h : t = false) (k : F false) : WB t F := ⟨fun e => (by rw [h] at e; cases e), fun _ => k⟩
theorem WB.fT {t : Bool} {F : Bool -> Prop} (h : t = true) (k : F true) : WB t F := ⟨fun _ => k, fun e => (by rw [h] at e; cases e)⟩
theorem vJ (Tr : List Ln) (m : Nat) (c : Int) (hT : Tr.length <= 1000) (hm : m <= Tr.length) : PureF Try.prog p57.ix [.lst 3 (aC aI Tr), .i .i64 (m : Int), .i .i64 c] (.i .i64 (aZ Tr c m)) := by
 have e1 := aD aI Tr
 refine PureF.run Xx (by simp) (by simp [aO, dE, Pu, aB]) ?_; conv => whnf
 refine Qg ?_
 refine Rn.loop (fun j : Nat => ⟨(.n (.n (.n (.n .e (some (.i .i64 (aZ Tr c j))) .e) none .e) (some (.i .i64 (m : Int))) .e) (some (.lst 3 (aC aI Tr))) (.n (.n (.n .e (some (.i .i64 (j : Int))) .e) none .e) (some (.i .i64 c)) .e)), .e, .h, none⟩) (fun j => j <= m) (fun j => m - j) 0 ?_ ?_ ?_
 ·(first | (refine X.le.mk ?_ ?_ (Nat.le_refl _) rfl rfl) | skip) <;> (repeat' first | exact T.le_e _ | refine T.le_some ?_ ?_ ?_ | refine T.le_none ?_ ?_ | rfl)
 ·exact Nat.zero_le _
 intro j hj
 have hj : j <= m := hj
 have hs : aZ Tr c (j + 1) = if (Tr.getD j default).c = c then (if (Tr.getD j default).k = 1 then (j : Int) else -1) else aZ Tr c j := rfl
 conv => whnf
 refine Qg ?_
 refine WB.dec (fun h => ?_) (fun h => ?_) <;> conv => whnf
 ·have hlt : j < Tr.length := by omega
  by_cases h1 : (Tr.getD j default).c = c
  ·rw [if_pos h1] at hs
   by_cases h2 : (Tr.getD j default).k = 1
   ·rw [if_pos h2] at hs
    repeat' ((first | refine Qw ?_ | refine Qd (fun h => ?_) (fun h => ?_)) <;> conv => whnf)
    refine Again.to (j + 1) (by omega) (by omega) (Nat.le_refl _) ?_
    rw [hs]
    (refine Shr.of ?_ ?_ rfl rfl) <;> (repeat' first | exact Rel.e | refine Rel.some ?_ ?_ ?_ | refine Rel.none ?_ ?_) <;> (try first | exact Fx | (refine Ro (ShC.same ?_); (repeat' first | exact ShC.nl | refine ShC.cn ?_ ?_) <;> exact Fx))
    all_goals exact Fz.pu (aB _)
   ·rw [if_neg h2] at hs
    repeat' ((first | refine Qw ?_ | refine Qd (fun h => ?_) (fun h => ?_)) <;> conv => whnf)
    refine Again.to (j + 1) (by omega) (by omega) (Nat.le_refl _) ?_
    rw [hs]
    (refine Shr.of ?_ ?_ rfl rfl) <;> (repeat' first | exact Rel.e | refine Rel.some ?_ ?_ ?_ | refine Rel.none ?_ ?_) <;> (try first | exact Fx | (refine Ro (ShC.same ?_); (repeat' first | exact ShC.nl | refine ShC.cn ?_ ?_) <;> exact Fx))
    all_goals exact Fz.pu (aB _)
  ·rw [if_neg h1] at hs
   repeat' ((first | refine Qw ?_ | refine Qd (fun h => ?_) (fun h => ?_)) <;> conv => whnf)
   refine Again.to (j + 1) (by omega) (by omega) (Nat.le_refl _) ?_
   rw [hs]
   (refine Shr.of ?_ ?_ rfl rfl) <;> (repeat' first | exact Rel.e | refine Rel.some ?_ ?_ ?_ | refine Rel.none ?_ ?_) <;> (try first | exact Fx | (refine Ro (ShC.same ?_); (repeat' first | exact ShC.nl | refine ShC.cn ?_ ?_) <;> exact Fx))
   all_goals exact Fz.pu (aB _)
 ·refine Qg ?_
  exact Fin.i rfl (by rw [show m = j by omega])
theorem xE (Tr : List Ln) (m : Nat) (c : Int) (hT : Tr.length <= 1000) (hm : m <= Tr.length) : PureF Try.prog p58.ix [.lst 3 (aC aI Tr), .i .i64 (m : Int), .i .i64 c] (.i .i64 (bB Tr c m)) := by
 have e1 := aD aI Tr
 refine PureF.run XU (by simp) (by simp [aO, dE, Pu, aB]) ?_; conv => whnf
 refine Qg ?_
 refine Rn.loop (fun j : Nat => ⟨(.n (.n (.n (.n .e (some (.i .i64 (bB Tr c j))) .e) none .e) (some (.i .i64 (m : Int))) .e) (some (.lst 3 (aC aI Tr))) (.n (.n (.n .e (some (.i .i64 (j : Int))) .e) none .e) (some (.i .i64 c)) .e)), .e, .h, none⟩) (fun j => j <= m) (fun j => m - j) 0 ?_ ?_ ?_
 ·(first | (refine X.le.mk ?_ ?_ (Nat.le_refl _) rfl rfl) | skip) <;> (repeat' first | exact T.le_e _ | refine T.le_some ?_ ?_ ?_ | refine T.le_none ?_ ?_ | rfl)
 ·exact Nat.zero_le _
 intro j hj
 have hj : j <= m := hj
 have hs : bB Tr c (j + 1) = if (Tr.getD j default).t = c then (if (Tr.getD j default).k = 1 then (j : Int) else -1) else bB Tr c j := rfl
 conv => whnf
 refine Qg ?_
 refine WB.dec (fun h => ?_) (fun h => ?_) <;> conv => whnf
 ·have hlt : j < Tr.length := by omega
  by_cases h1 : (Tr.getD j default).t = c
  ·rw [if_pos h1] at hs
   by_cases h2 : (Tr.getD j default).k = 1
   ·rw [if_pos h2] at hs
    repeat' ((first | refine Qw ?_ | refine Qd (fun h => ?_) (fun h => ?_)) <;> conv => whnf)
    refine Again.to (j + 1) (by omega) (by omega) (Nat.le_refl _) ?_
    rw [hs]
    (refine Shr.of ?_ ?_ rfl rfl) <;> (repeat' first | exact Rel.e | refine Rel.some ?_ ?_ ?_ | refine Rel.none ?_ ?_) <;> (try first | exact Fx | (refine Ro (ShC.same ?_); (repeat' first | exact ShC.nl | refine ShC.cn ?_ ?_) <;> exact Fx))
    all_goals exact Fz.pu (aB _)
   ·rw [if_neg h2] at hs
    repeat' ((first | refine Qw ?_ | refine Qd (fun h => ?_) (fun h => ?_)) <;> conv => whnf)
    refine Again.to (j + 1) (by omega) (by omega) (Nat.le_refl _) ?_
    rw [hs]
    (refine Shr.of ?_ ?_ rfl rfl) <;> (repeat' first | exact Rel.e | refine Rel.some ?_ ?_ ?_ | refine Rel.none ?_ ?_) <;> (try first | exact Fx | (refine Ro (ShC.same ?_); (repeat' first | exact ShC.nl | refine ShC.cn ?_ ?_) <;> exact Fx))
    all_goals exact Fz.pu (aB _)
  ·rw [if_neg h1] at hs
   repeat' ((first | refine Qw ?_ | refine Qd (fun h => ?_) (fun h => ?_)) <;> conv => whnf)
   refine Again.to (j + 1) (by omega) (by omega) (Nat.le_refl _) ?_
   rw [hs]
   (refine Shr.of ?_ ?_ rfl rfl) <;> (repeat' first | exact Rel.e | refine Rel.some ?_ ?_ ?_ | refine Rel.none ?_ ?_) <;> (try first | exact Fx | (refine Ro (ShC.same ?_); (repeat' first | exact ShC.nl | refine ShC.cn ?_ ?_) <;> exact Fx))
   all_goals exact Fz.pu (aB _)
 ·refine Qg ?_
  exact Fin.i rfl (by rw [show m = j by omega])
theorem qK (Tr : List Ln) (hT : Tr.length <= 1000) : PureF Try.prog p31.ix [.lst 3 (aC aI Tr)] (.b (dW Tr)) := by
 have e1 := aD aI Tr
 refine PureF.run Xs (by simp) (by simp [aO, dE, Pu, aB]) ?_; conv => whnf
 refine Qg ?_
 refine Rn.loop (fun j : Nat => ⟨(.n (.n (.n .e (some (.i .i64 (j : Int))) .e) none .e) (some (.lst 3 (aC aI Tr))) .e), .e, .h, none⟩) (fun j => j <= Tr.length /\ (List.range j).all (eD Tr) = true) (fun j => Tr.length - j) 0 ?_ ?_ ?_
 ·(first | (refine X.le.mk ?_ ?_ (Nat.le_refl _) rfl rfl) | skip) <;> (repeat' first | exact T.le_e _ | refine T.le_some ?_ ?_ ?_ | refine T.le_none ?_ ?_ | rfl)
 ·exact ⟨Nat.zero_le _, rfl⟩
 rintro j ⟨hj, ha⟩
 conv => whnf
 refine Qg ?_
 refine WB.dec (fun h => ?_) (fun h => ?_) <;> conv => whnf
 ·have hlt : j < Tr.length := by omega
  have c1 := vJ Tr j (Tr.getD j default).c hT hj
  have c2 := xE Tr j (Tr.getD j default).t hT hj
  have hbad : eD Tr j = false -> dW Tr = false := fun h => uJ hlt h
  have hok : eD Tr j = ((decide (0 <= aZ Tr (Tr.getD j default).c j) == decide ((Tr.getD j default).k = 2)) && (decide (0 <= bB Tr (Tr.getD j default).t j) == decide ((Tr.getD j default).k = 2))) := rfl
  repeat' ((first | refine Qw ?_ | refine Qf c1 ?_ | refine Qf c2 ?_) <;> conv => whnf)
  cases hA : (decide (0 <= aZ Tr (Tr.getD j default).c j) == decide ((Tr.getD j default).k = 2)) with
  | false =>
    refine WB.fT rfl ?_; conv => whnf
    repeat' ((first | refine Qw ?_) <;> conv => whnf)
    exact Fin.b rfl (by rw [hbad (by rw [hok, hA]; rfl)])
  | true =>
  refine WB.fF rfl ?_; conv => whnf
  repeat' ((first | refine Qw ?_) <;> conv => whnf)
  cases hB : (decide (0 <= bB Tr (Tr.getD j default).t j) == decide ((Tr.getD j default).k = 2)) with
  | false =>
    refine WB.fT rfl ?_; conv => whnf
    repeat' ((first | refine Qw ?_) <;> conv => whnf)
    exact Fin.b rfl (by rw [hbad (by rw [hok, hA, hB]; rfl)])
  | true =>
  refine WB.fF rfl ?_; conv => whnf
  repeat' ((first | refine Qw ?_) <;> conv => whnf)
  refine Again.to (j + 1) (by omega) ⟨by omega, vZ ha (by rw [hok, hA, hB]; rfl)⟩ (Nat.le_refl _) ?_
  (refine Shr.of ?_ ?_ rfl rfl) <;> (repeat' first | exact Rel.e | refine Rel.some ?_ ?_ ?_ | refine Rel.none ?_ ?_) <;> (try first | exact Fx | (refine Ro (ShC.same ?_); (repeat' first | exact ShC.nl | refine ShC.cn ?_ ?_) <;> exact Fx))
  all_goals exact Fz.pu (aB _)
 ·refine Qg ?_
  exact Fin.b rfl (by unfold dW; rw [show Tr.length = j by omega, ha])
theorem Mk (n coin box : Int) (ls : List Ln) (cs : List Ct) (Tr : List Ln) (m : Nat) (hb : 0 <= box /\ box <= 999) (hc : 1 <= coin /\ coin <= 99) (hT : Tr.length <= 1000) (hm : m <= Tr.length) : PureF Try.prog p33.ix [.ag (CT n coin box ls cs), .lst 3 (aC aI Tr), .i .i64 (m : Int)] (.i .i64 (cL box coin Tr m)) := by
 have e1 := aD aI Tr
 refine PureF.run Xa (by simp) (by simp [aO, dE, Pu, CT, aB, aE]) ?_; conv => whnf
 refine Qg ?_
 refine Rn.loop (fun j : Nat => ⟨(.n (.n (.n (.n .e (some (.i .i64 (cL box coin Tr j))) .e) (some (.pt .h 0 0)) .e) (some (.lst 3 (aC aI Tr))) .e) none (.n (.n (.n .e (some (.i .i64 (j : Int))) .e) none .e) (some (.i .i64 (m : Int))) .e)), (.n .e (some (AD n coin box ls cs)) .e), .o .h, none⟩) (fun j => j <= m) (fun j => m - j) 0 ?_ ?_ ?_
 ·refine X.le.mk ?_ ?_ (Nat.le_refl _) rfl rfl
  ·exact eK
  ·exact Lw
 ·exact Nat.zero_le _
 intro j hj
 have hj : j <= m := hj
 have hs : cL box coin Tr (j + 1) = if (Tr.getD j default).k = 1 then cL box coin Tr j + coin else cL box coin Tr j - coin := rfl
 have hbd := rL (T := Tr) hb hc j
 have hst : ∀ (v : Int) (sl : T D) (ob : T C) (nx : Pos), v = cL box coin Tr (j + 1) -> T.le ((.n (.n (.n (.n .e (some (.i .i64 v)) .e) (some (.pt .h 0 0)) .e) (some (.lst 3 (aC aI Tr))) .e) none (.n (.n (.n .e (some (.i .i64 ((j + 1 : Nat) : Int))) .e) none .e) (some (.i .i64 (m : Int))) .e)) : T D) sl -> T.le ((.n .e (some (AD n coin box ls cs)) .e) : T C) ob -> Shr ⟨sl, ob, nx, none⟩ ⟨(.n (.n (.n (.n .e (some (.i .i64 (cL box coin Tr (j + 1)))) .e) (some (.pt .h 0 0)) .e) (some (.lst 3 (aC aI Tr))) .e) none (.n (.n (.n .e (some (.i .i64 ((j + 1 : Nat) : Int))) .e) none .e) (some (.i .i64 (m : Int))) .e)), (.n .e (some (AD n coin box ls cs)) .e), .o .h, none⟩ := fun v sl ob nx hv hs ho => by
  subst hv
  refine Shr.kp2 hs ?_ ho ?_
  ·show TAll (fun _ d => Kp 2 d) _
   repeat' first | exact TAll.e | refine TAll.some ?_ ?_ ?_ | refine TAll.none ?_ ?_
   all_goals simp [Kp, Pu, aB, Pos.nat]
  ·show TAll (fun id c => id.nat < 2 /\ KpC 2 c) _
   exact TAll.some TAll.e ⟨by simp [Pos.nat], Bc _ _ _ _ _ _⟩ TAll.e
 conv => whnf
 refine Qg ?_
 refine WB.dec (fun h => ?_) (fun h => ?_) <;> conv => whnf
 ·have hlt : j < Tr.length := by omega
  by_cases h1 : (Tr.getD j default).k = 1
  ·rw [if_pos h1] at hs
   repeat' ((first | refine Qw ?_ | refine Qd (fun h => ?_) (fun h => ?_)) <;> conv => whnf)
   refine Again.to (j + 1) (by omega) (by omega) (Nat.le_refl _) (hst _ _ _ _ hs.symm ?_ ?_)
   ·exact eK
   ·exact Lw
  ·rw [if_neg h1] at hs
   repeat' ((first | refine Qw ?_ | refine Qd (fun h => ?_) (fun h => ?_)) <;> conv => whnf)
   refine Again.to (j + 1) (by omega) (by omega) (Nat.le_refl _) (hst _ _ _ _ hs.symm ?_ ?_)
   ·exact eK
   ·exact Lw
 ·refine Qg ?_
  exact Fin.i rfl (by rw [show m = j by omega])
def qJ (n coin box : Int) (ls : List Ln) (cs : List Ct) (Tr : List Ln) : Bool := iZ n ls Tr && (dW Tr && vN box coin cs Tr)
end Go.Ev
end
