import Derived.Test.YtjgbfnciedkafaaEvUJs
import Derived.Test.YtjgbfnciedkafaaEvUJ1
set_option linter.all false
set_option maxHeartbeats 8000000
noncomputable section
namespace Go.Ev
set_option maxRecDepth 100000
structure Ln where
 k : Int
 c : Int
 t : Int
deriving Inhabited
structure Ct where
 a : Int
 lo : Int
 hi : Int
deriving Inhabited
def aI (l : Ln) : List D := [.i .i64 l.k, .i .i64 l.c, .i .i64 l.t]
def cY (c : Ct) : List D := [.i .i64 c.a, .i .i64 c.lo, .i .i64 c.hi]
def CT (n coin box : Int) (ls : List Ln) (cs : List Ct) : List D := [.i .i64 n, .i .i64 coin, .i .i64 box, .lst 3 (aC aI ls), .lst 3 (aC cY cs)]
theorem aB (ls : List Ln) : dF (aC aI ls) := lX (fun l => by simp [aI, aO, Pu]) ls
theorem aE (cs : List Ct) : dF (aC cY cs) := lX (fun l => by simp [cY, aO, Pu]) cs
theorem Fx {B : Pos -> Prop} {ob : T C} {d e : D} (h : Fz B ob d e := by first | exact Fz.pu trivial | (refine Fz.i ?_; first | rfl | omega) | exact .kpt (Ql rfl) | exact .ksl (Ql rfl) | exact .kmp (Ql rfl) | (refine Fz.pu ?_; simp [Cell.d, Pu, aO, dF, aH, aB, aE]; done) | (refine Fz.pu ?_; simp only [Cell.d]; assumption)) : Fz B ob d e := h
theorem Rw {sl sl' : T D} {B : Pos -> Prop} {ob : T C} {f : Pos -> Pos} (h : Rel (RS B ob) f sl sl' := by (repeat' first | exact Rel.e | refine Rel.some ?_ ?_ ?_ | refine Rel.none ?_ ?_ | refine Rel.ee ?_ ?_) <;> first | exact Fy | exact Fz.pu (aH _) | exact Fz.pu (aB _) | exact Fz.pu (aE _)) : Rel (RS B ob) f sl sl' := h
theorem dJ (ls : List Ln) : ∀ r ∈ aC aI ls, r.length = 3 := fun r hr => by
 obtain ⟨l, _, rfl⟩ := List.mem_map.1 hr
 rfl
theorem Hr (cs : List Ct) : ∀ r ∈ aC cY cs, r.length = 3 := fun r hr => by
 obtain ⟨l, _, rfl⟩ := List.mem_map.1 hr
 rfl
def pV (l x : Ln) : Bool := (decide (l.k = 0) || decide (l.k = x.k)) && ((decide (l.c < 0) || decide (l.c = x.c)) && (decide (l.t < 0) || decide (l.t = x.t)))
def gE (n a b : Int) : Bool := decide (a <= n /\ n <= b)
theorem aP {n a b : Int} : gE n a b = true ↔ a <= n /\ n <= b := decide_eq_true_iff
def cL (n : Int) (l : Ln) : Bool := gE l.k 0 2 && (gE l.c (-1) (n - 1) && gE l.t (-1) (n - 1))
def rU (m : Int) (c : Ct) : Bool := gE c.a 0 m && (decide (0 <= c.lo) && (decide (c.lo <= c.hi) && decide (c.hi <= 2000)))
def Bf (l : Ln) : Int := if l.k = 0 then 2 else 1
def zQ (n : Int) (l : Ln) : Int := if l.c = -1 then n else 1
def xV (n : Int) (l : Ln) : Int := if l.t = -1 then n else 1
def kU (n : Int) (l : Ln) : Int := Bf l * zQ n l * xV n l
theorem oC {n : Int} (h1 : 1 <= n) (h4 : n <= 4) (l : Ln) : 1 <= kU n l /\ kU n l <= 32 := by
 unfold kU Bf zQ xV
 have : n = 1 \/ n = 2 \/ n = 3 \/ n = 4 := by omega
 rcases this with rfl | rfl | rfl | rfl <;> split <;> split <;> split <;> omega
def eY (n : Int) (ls : List Ln) : Int := ls.foldl (fun m l => m * kU n l) 1
def eL (n : Int) (ls : List Ln) : Int := ls.foldl (fun m l => min 5000 (m * kU n l)) 1
theorem vP {n : Int} (h1 : 1 <= n) (h4 : n <= 4) : ∀ (ls : List Ln) (p q : Int), 1 <= p -> q = min 5000 p -> ls.foldl (fun m l => min 5000 (m * kU n l)) q = min 5000 (ls.foldl (fun m l => m * kU n l) p) /\ 1 <= ls.foldl (fun m l => m * kU n l) p
 | [], p, q, hp, hq => ⟨hq, hp⟩
 | l :: ls, p, q, hp, hq => by
   obtain ⟨b1, b2⟩ := oC h1 h4 l
   have h0 : 1 <= p * kU n l := by
    have := Int.mul_le_mul hp b1 (by omega) (by omega)
    omega
   refine vP h1 h4 ls (p * kU n l) (min 5000 (q * kU n l)) h0 ?_
   by_cases h : p <= 5000
   ·rw [hq, show min 5000 p = p by omega]
   ·have e : q = 5000 := by omega
    have h2 : (5000 : Int) * 1 <= 5000 * kU n l := Int.mul_le_mul (Int.le_refl _) b1 (by omega) (by omega)
    have h3 : (5000 : Int) * 1 <= p * kU n l := Int.mul_le_mul (by omega) b1 (by omega) (by omega)
    rw [e]
    omega
theorem fQ {n : Int} (h1 : 1 <= n) (h4 : n <= 4) (ls : List Ln) : eL n ls = min 5000 (eY n ls) /\ 1 <= eY n ls := vP h1 h4 ls 1 1 (by omega) (by omega)
theorem BS {n : Int} (h1 : 1 <= n) (h4 : n <= 4) : ∀ (ls : List Ln) (p b : Int), 1 <= p -> p <= b -> ls.foldl (fun m l => m * kU n l) p <= b * 32 ^ ls.length
 | [], p, b, _, h => by simpa using h
 | l :: ls, p, b, hp, h => by
   obtain ⟨b1, b2⟩ := oC h1 h4 l
   have h0 : 1 <= p * kU n l := by
    have := Int.mul_le_mul hp b1 (by omega) (by omega)
    omega
   have h2 : p * kU n l <= b * 32 := Int.mul_le_mul h b2 (by omega) (by omega)
   have := BS h1 h4 ls (p * kU n l) (b * 32) h0 h2
   rw [List.length_cons, Int.pow_succ, show b * (32 ^ ls.length * 32) = b * 32 * 32 ^ ls.length by rw [Int.mul_assoc, Int.mul_comm 32]]
   exact this
def kR (n coin box : Int) (ls : List Ln) (cs : List Ct) : Bool := gE n 1 4 && (gE coin 1 99 && (gE box 0 999 && (ls.all (cL n) && cs.all (rU ls.length))))
def aS (n coin box : Int) (ls : List Ln) (cs : List Ct) : Int :=
 if 8 < ls.length \/ 4 < cs.length then 3 else if kR n coin box ls cs = true then (if 4096 < eL n ls then 3 else 0) else 1
theorem jJ {n coin box : Int} {ls : List Ln} {cs : List Ct} (h : aS n coin box ls cs = 0) : ls.length <= 8 /\ cs.length <= 4 /\ kR n coin box ls cs = true /\ eL n ls <= 4096 := by
 unfold aS at h
 split at h
 ·cases h
 ·split at h
  ·split at h
   ·cases h
   ·exact ⟨by omega, by omega, by assumption, by omega⟩
  ·cases h
def aZ (T : List Ln) (c : Int) : Nat -> Int
 | 0 => -1
 | i + 1 => if (T.getD i default).c = c then (if (T.getD i default).k = 1 then (i : Int) else -1) else aZ T c i
def bC (T : List Ln) (t : Int) : Nat -> Int
 | 0 => -1
 | i + 1 => if (T.getD i default).t = t then (if (T.getD i default).k = 1 then (i : Int) else -1) else bC T t i
theorem kL (T : List Ln) (c : Int) : ∀ i, -1 <= aZ T c i /\ aZ T c i < i
 | 0 => by show -1 <= (-1 : Int) /\ (-1 : Int) < 0; omega
 | i + 1 => by
   have := kL T c i
   unfold aZ
   split <;> try split
   all_goals omega
theorem kI (T : List Ln) (c : Int) : ∀ i, -1 <= bC T c i /\ bC T c i < i
 | 0 => by show -1 <= (-1 : Int) /\ (-1 : Int) < 0; omega
 | i + 1 => by
   have := kI T c i
   unfold bC
   split <;> try split
   all_goals omega
def eA (T : List Ln) (i : Nat) : Bool := (decide (0 <= aZ T (T.getD i default).c i) == decide ((T.getD i default).k = 2)) && (decide (0 <= bC T (T.getD i default).t i) == decide ((T.getD i default).k = 2))
def dW (T : List Ln) : Bool := (List.range T.length).all (eA T)
def cQ (box coin : Int) (T : List Ln) : Nat -> Int
 | 0 => box
 | i + 1 => if (T.getD i default).k = 1 then cQ box coin T i + coin else cQ box coin T i - coin
def gQ (T : List Ln) : Nat -> Int
 | 0 => 0
 | i + 1 => gQ T i + if (T.getD i default).k = 2 /\ aZ T (T.getD i default).c i ≠ bC T (T.getD i default).t i then 1 else 0
theorem sG {box coin : Int} {T : List Ln} (h1 : 0 <= box /\ box <= 999) (h2 : 1 <= coin /\ coin <= 99) : ∀ i : Nat, -99 * (i : Int) <= cQ box coin T i /\ cQ box coin T i <= 999 + 99 * (i : Int)
 | 0 => by show -99 * 0 <= box /\ box <= 999 + 99 * 0; omega
 | i + 1 => by
   have := sG (T := T) h1 h2 i
   unfold cQ
   split <;> omega
theorem Ad {T : List Ln} : ∀ i : Nat, 0 <= gQ T i /\ gQ T i <= i
 | 0 => by show (0 : Int) <= 0 /\ (0 : Int) <= 0; omega
 | i + 1 => by
   have := Ad (T := T) i
   unfold gQ
   split <;> omega
def No (n : Int) (l x : Ln) : Bool := gE x.k 1 2 && (gE x.c 0 (n - 1) && (gE x.t 0 (n - 1) && pV l x))
def iY (n : Int) (ls T : List Ln) : Bool := decide (T.length = ls.length) && (List.range T.length).all fun i => No n (ls.getD i default) (T.getD i default)
def wJ (box coin : Int) (cs : List Ct) (T : List Ln) : Bool := cs.all fun c => gE (cQ box coin T c.a.toNat) c.lo c.hi
structure Mo where
 n : Int
 h : Nat -> Int
 box : Int
 mix : Int
 last : Ln
instance : Inhabited Mo := ⟨⟨0, fun _ => 0, 0, 0, ⟨0, 0, 0⟩⟩⟩
def dI (m : Mo) : List D := [.i .i64 m.n, .i .i64 (m.h 0), .i .i64 (m.h 1), .i .i64 (m.h 2), .i .i64 (m.h 3), .i .i64 (m.h 4), .i .i64 (m.h 5), .i .i64 (m.h 6), .i .i64 (m.h 7), .i .i64 m.box, .i .i64 m.mix, .i .i64 m.last.k, .i .i64 m.last.c, .i .i64 m.last.t]
def pG (h : Nat -> Int) (q : Nat) (v : Int) (i : Nat) : Int := if i = q then v else h i
def mH (coin : Int) (m : Mo) (l : Ln) : Mo × Bool :=
 if l.k = 1 /\ m.h l.c.toNat = 0 /\ m.h (4 + l.t.toNat) = 0 then (⟨m.n + 1, pG (pG m.h l.c.toNat (m.n + 1)) (4 + l.t.toNat) (m.n + 1), m.box + coin, m.mix, l⟩, true)
 else if l.k = 2 /\ m.h l.c.toNat ≠ 0 /\ m.h (4 + l.t.toNat) ≠ 0 then (⟨m.n + 1, pG (pG m.h l.c.toNat 0) (4 + l.t.toNat) 0, m.box - coin, if m.h l.c.toNat ≠ m.h (4 + l.t.toNat) then m.mix + 1 else m.mix, l⟩, true)
 else (⟨m.n + 1, m.h, m.box, m.mix, l⟩, false)
def fJ (box coin : Int) (T : List Ln) (i : Nat) : Mo := ⟨(i : Int), fun q => if q < 4 then aZ T (q : Int) i + 1 else bC T ((q - 4 : Nat) : Int) i + 1, cQ box coin T i, gQ T i, match i with
 | 0 => ⟨0, 0, 0⟩
 | i + 1 => T.getD i default⟩
theorem ER {box coin : Int} {T : List Ln} {i : Nat} (hk : (T.getD i default).k = 1 \/ (T.getD i default).k = 2) (hc : 0 <= (T.getD i default).c /\ (T.getD i default).c <= 3) (ht : 0 <= (T.getD i default).t /\ (T.getD i default).t <= 3) (hp : eA T i = true) : mH coin (fJ box coin T i) (T.getD i default) = (fJ box coin T (i + 1), true) := by
 unfold eA at hp
 rw [Bool.and_eq_true, beq_iff_eq, beq_iff_eq] at hp
 obtain ⟨p1, p2⟩ := hp
 have hcN : (((T.getD i default).c.toNat : Nat) : Int) = (T.getD i default).c := by omega
 have htN : (((T.getD i default).t.toNat : Nat) : Int) = (T.getD i default).t := by omega
 have e1 : (fJ box coin T i).h (T.getD i default).c.toNat = aZ T (T.getD i default).c i + 1 := by
  show (if (T.getD i default).c.toNat < 4 then _ else _) = _
  rw [if_pos (by omega), hcN]
 have e2 : (fJ box coin T i).h (4 + (T.getD i default).t.toNat) = bC T (T.getD i default).t i + 1 := by
  show (if 4 + (T.getD i default).t.toNat < 4 then _ else _) = _
  rw [if_neg (by omega), show 4 + (T.getD i default).t.toNat - 4 = (T.getD i default).t.toNat by omega, htN]
 have b1 := kL T (T.getD i default).c i
 have b2 := kI T (T.getD i default).t i
 have hext : ∀ v : Int, (∀ c : Int, aZ T c (i + 1) = if (T.getD i default).c = c then v - 1 else aZ T c i) -> (∀ c : Int, bC T c (i + 1) = if (T.getD i default).t = c then v - 1 else bC T c i) -> pG (pG (fJ box coin T i).h (T.getD i default).c.toNat v) (4 + (T.getD i default).t.toNat) v = (fJ box coin T (i + 1)).h := fun v h1 h2 => by
  funext q
  show (if q = 4 + (T.getD i default).t.toNat then v else if q = (T.getD i default).c.toNat then v else if q < 4 then aZ T (q : Int) i + 1 else bC T ((q - 4 : Nat) : Int) i + 1) = if q < 4 then aZ T (q : Int) (i + 1) + 1 else bC T ((q - 4 : Nat) : Int) (i + 1) + 1
  rw [h1, h2]
  by_cases hq : q < 4
  ·rw [if_neg (show ¬ q = 4 + (T.getD i default).t.toNat by omega), if_pos hq, if_pos hq]
   by_cases hqc : q = (T.getD i default).c.toNat
   ·rw [if_pos hqc, if_pos (by omega)]; omega
   ·rw [if_neg hqc, if_neg (by omega)]
  ·rw [if_neg hq, if_neg hq, if_neg (show ¬ q = (T.getD i default).c.toNat by omega)]
   by_cases hqt : q = 4 + (T.getD i default).t.toNat
   ·rw [if_pos hqt, if_pos (by omega)]; omega
   ·rw [if_neg hqt, if_neg (by omega)]
 unfold mH
 rw [e1, e2]
 rcases hk with hk | hk
 ·have q1 : ¬ 0 <= aZ T (T.getD i default).c i := by
   intro h; rw [decide_eq_true h, hk] at p1; cases p1
  have q2 : ¬ 0 <= bC T (T.getD i default).t i := by
   intro h; rw [decide_eq_true h, hk] at p2; cases p2
  rw [if_pos ⟨hk, by omega, by omega⟩]
  have hh := hext ((i : Int) + 1) (fun c => by
   show (if _ then (if _ then _ else _) else _) = _
   rw [hk, if_pos rfl]
   congr 1; omega) (fun c => by
   show (if _ then (if _ then _ else _) else _) = _
   rw [hk, if_pos rfl]
   congr 1; omega)
  show ((⟨(i : Int) + 1, pG (pG (fJ box coin T i).h _ ((i : Int) + 1)) _ ((i : Int) + 1), cQ box coin T i + coin, gQ T i, T.getD i default⟩, true) : Mo × Bool) = _
  rw [hh]
  have m1 : cQ box coin T (i + 1) = cQ box coin T i + coin := by
   show (if _ then _ else _) = _
   rw [if_pos hk]
  have m2 : gQ T (i + 1) = gQ T i := by
   show gQ T i + (if _ then _ else _) = _
   rw [if_neg (by rw [hk]; intro h; omega)]; omega
  unfold fJ
  simp only [m1, m2]
  rfl
 ·have q1 : 0 <= aZ T (T.getD i default).c i := by
   refine Classical.byContradiction fun h => ?_
   rw [decide_eq_false h, hk] at p1; cases p1
  have q2 : 0 <= bC T (T.getD i default).t i := by
   refine Classical.byContradiction fun h => ?_
   rw [decide_eq_false h, hk] at p2; cases p2
  rw [if_neg (fun h => by omega), if_pos ⟨hk, by omega, by omega⟩]
  have hh := hext 0 (fun c => by
   show (if _ then (if _ then _ else _) else _) = _
   by_cases hcc : (T.getD i default).c = c
   ·rw [if_pos hcc, if_neg (by rw [hk]; decide), if_pos hcc]; rfl
   ·rw [if_neg hcc, if_neg hcc]) (fun c => by
   show (if _ then (if _ then _ else _) else _) = _
   by_cases hcc : (T.getD i default).t = c
   ·rw [if_pos hcc, if_neg (by rw [hk]; decide), if_pos hcc]; rfl
   ·rw [if_neg hcc, if_neg hcc])
  show ((⟨(i : Int) + 1, pG (pG (fJ box coin T i).h _ 0) _ 0, cQ box coin T i - coin, (if aZ T _ i + 1 ≠ bC T _ i + 1 then gQ T i + 1 else gQ T i), T.getD i default⟩, true) : Mo × Bool) = _
  rw [hh]
  have m1 : cQ box coin T (i + 1) = cQ box coin T i - coin := by
   show (if _ then _ else _) = _
   rw [if_neg (by rw [hk]; decide)]
  have m2 : gQ T (i + 1) = if aZ T (T.getD i default).c i + 1 ≠ bC T (T.getD i default).t i + 1 then gQ T i + 1 else gQ T i := by
   show gQ T i + (if _ then _ else _) = _
   by_cases h : aZ T (T.getD i default).c i = bC T (T.getD i default).t i
   ·rw [if_neg (fun h' => h'.2 h), if_neg (fun h' => h' (by omega))]; omega
   ·rw [if_pos ⟨hk, h⟩, if_pos (by omega)]
  unfold fJ
  simp only [m1, m2]
  rfl
theorem HT {box coin : Int} {T : List Ln} {i : Nat} (hk : (T.getD i default).k = 1 \/ (T.getD i default).k = 2) (hc : 0 <= (T.getD i default).c /\ (T.getD i default).c <= 3) (ht : 0 <= (T.getD i default).t /\ (T.getD i default).t <= 3) (hp : eA T i = false) : (mH coin (fJ box coin T i) (T.getD i default)).2 = false := by
 have hcN : (((T.getD i default).c.toNat : Nat) : Int) = (T.getD i default).c := by omega
 have htN : (((T.getD i default).t.toNat : Nat) : Int) = (T.getD i default).t := by omega
 have e1 : (fJ box coin T i).h (T.getD i default).c.toNat = aZ T (T.getD i default).c i + 1 := by
  show (if (T.getD i default).c.toNat < 4 then _ else _) = _
  rw [if_pos (by omega), hcN]
 have e2 : (fJ box coin T i).h (4 + (T.getD i default).t.toNat) = bC T (T.getD i default).t i + 1 := by
  show (if 4 + (T.getD i default).t.toNat < 4 then _ else _) = _
  rw [if_neg (by omega), show 4 + (T.getD i default).t.toNat - 4 = (T.getD i default).t.toNat by omega, htN]
 have b1 := kL T (T.getD i default).c i
 have b2 := kI T (T.getD i default).t i
 unfold mH
 rw [e1, e2]
 have hn : ¬ (decide (0 <= aZ T (T.getD i default).c i) = decide ((T.getD i default).k = 2) /\ decide (0 <= bC T (T.getD i default).t i) = decide ((T.getD i default).k = 2)) := fun h => by
  have : eA T i = true := by
   unfold eA
   rw [h.1, h.2]; simp
  rw [this] at hp; cases hp
 split
 ·rename_i h
  exact absurd ⟨by rw [decide_eq_false (by omega), decide_eq_false (by omega)], by rw [decide_eq_false (by omega), decide_eq_false (by omega)]⟩ hn
 ·split
  ·rename_i h
   exact absurd ⟨by rw [decide_eq_true (by omega), decide_eq_true (by omega)], by rw [decide_eq_true (by omega), decide_eq_true (by omega)]⟩ hn
  ·rfl
open Go.Proofs
def Al (n coin box : Int) (ls : List Ln) (cs : List Ct) : C := .cells false [.o (.i .i64 n) 0, .o (.i .i64 coin) 0, .o (.i .i64 box) 0, .o (.lst 3 (aC aI ls)) 0, .o (.lst 3 (aC cY cs)) 0] 1
theorem AI (n coin box : Int) (ls : List Ln) (cs : List Ct) (m : Nat) : KpC m (Al n coin box ls cs) := by
 refine KpL.all ?_
 simp [KpL, Kp, Cell.d, Pu, aB, aE]
def LZ (l : Ln) : C := .cells false [.o (.i .i64 l.k) 0, .o (.i .i64 l.c) 0, .o (.i .i64 l.t) 0] 1
theorem Oc (l : Ln) (m : Nat) : KpC m (LZ l) := by
 refine KpL.all ?_
 simp [KpL, Kp, Cell.d, Pu]
theorem nW (n a b : Int) : PureF Try.prog p36.ix [.i .i64 n, .i .i64 a, .i .i64 b] (.b (gE n a b)) := by
 refine PureF.run WO (by simp) (by simp [aO, dF, Pu]) ?_; conv => whnf
 repeat' ((first | refine Qz ?_ | with_reducible refine WB.dec (fun h => ?_) (fun h => ?_) | with_reducible refine WB.ndec (fun h => ?_) (fun h => ?_) | refine WB.mk (fun h => ?_) (fun h => ?_)) <;> conv => whnf)
 all_goals
  refine Fin.b rfl ?_
  unfold gE
  first
   | exact (decide_eq_false (by omega)).symm
   | (congr 1; apply propext; constructor <;> intro hh <;> omega)
theorem JA (l x : Ln) : PureF Try.prog p84.ix [.ag (aI l), .ag (aI x)] (.b (pV l x)) := by
 obtain ⟨a, b, c⟩ := l
 obtain ⟨a', b', c'⟩ := x
 refine PureF.run Yf (by simp) (by simp [aO, dF, Pu, aI]) ?_; conv => whnf
 repeat' ((first | refine Qz ?_ | with_reducible refine WB.dec (fun h => ?_) (fun h => ?_) | with_reducible refine WB.ndec (fun h => ?_) (fun h => ?_) | refine WB.mk (fun h => ?_) (fun h => ?_)) <;> conv => whnf)
 all_goals exact Fin.b rfl (by unfold pV; simp_all <;> omega)
def sK (n : Int) (l : Ln) (i j : Int) : Nat -> List Ln
 | 0 => []
 | k + 1 => sK n l i j k ++ bif pV l ⟨i, j, (k : Int)⟩ then [⟨i, j, (k : Int)⟩] else []
def hJ (n : Int) (l : Ln) (i : Int) : Nat -> List Ln
 | 0 => []
 | j + 1 => hJ n l i j ++ sK n l i (j : Int) n.toNat
def BF (n : Int) (l : Ln) : Nat -> List Ln
 | 0 => []
 | i + 1 => BF n l i ++ hJ n l ((i : Int) + 1) n.toNat
def pL (n : Int) (l : Ln) : List Ln := BF n l 2
theorem AS (n : Int) (l : Ln) (i j : Int) : ∀ k, (sK n l i j k).length <= k
 | 0 => Nat.le_refl _
 | k + 1 => by
   have := AS n l i j k
   unfold sK
   rw [List.length_append]
   cases pV l ⟨i, j, (k : Int)⟩ <;> simp <;> omega
theorem Bg (n : Int) (l : Ln) (i : Int) (h4 : n.toNat <= 4) : ∀ j, (hJ n l i j).length <= j * 4
 | 0 => Nat.le_refl _
 | j + 1 => by
   have := Bg n l i h4 j
   have := AS n l i (j : Int) n.toNat
   unfold hJ
   rw [List.length_append]
   omega
theorem FN (n : Int) (l : Ln) (h4 : n.toNat <= 4) : ∀ i, (BF n l i).length <= i * 16
 | 0 => Nat.le_refl _
 | i + 1 => by
   have := FN n l h4 i
   have := Bg n l ((i : Int) + 1) h4 n.toNat
   unfold BF
   rw [List.length_append]
   omega
theorem JS : ∀ n ∈ [(1 : Int), 2, 3, 4], ∀ k ∈ [(0 : Int), 1, 2], ∀ c ∈ [(-1 : Int), 0, 1, 2, 3], ∀ t ∈ [(-1 : Int), 0, 1, 2, 3], (c < n && t < n) = true -> decide (((pL n ⟨k, c, t⟩).length : Int) = kU n ⟨k, c, t⟩) = true := by decide +kernel
theorem CP {n : Int} {l : Ln} (hn : 1 <= n /\ n <= 4) (hl : cL n l = true) : ((pL n l).length : Int) = kU n l := by
 obtain ⟨k, c, t⟩ := l
 unfold cL at hl
 rw [Bool.and_eq_true, Bool.and_eq_true, aP, aP, aP] at hl
 obtain ⟨h1, h2, h3⟩ := hl
 have h1 : 0 <= k /\ k <= 2 := h1
 have h2 : -1 <= c /\ c <= n - 1 := h2
 have h3 : -1 <= t /\ t <= n - 1 := h3
 have mn : n ∈ [(1 : Int), 2, 3, 4] := by
  have : n = 1 \/ n = 2 \/ n = 3 \/ n = 4 := by omega
  rcases this with rfl | rfl | rfl | rfl <;> simp
 have mk : k ∈ [(0 : Int), 1, 2] := by
  have : k = 0 \/ k = 1 \/ k = 2 := by omega
  rcases this with rfl | rfl | rfl <;> simp
 have mc : c ∈ [(-1 : Int), 0, 1, 2, 3] := by
  have : c = -1 \/ c = 0 \/ c = 1 \/ c = 2 \/ c = 3 := by omega
  rcases this with rfl | rfl | rfl | rfl | rfl <;> simp
 have mt : t ∈ [(-1 : Int), 0, 1, 2, 3] := by
  have : t = -1 \/ t = 0 \/ t = 1 \/ t = 2 \/ t = 3 := by omega
  rcases this with rfl | rfl | rfl | rfl | rfl <;> simp
 exact of_decide_eq_true (JS n mn k mk c mc t mt (by rw [Bool.and_eq_true, decide_eq_true_iff, decide_eq_true_iff]; omega))
def BU (A : List Ln) : List D := (aC aI A).flatten
theorem EZ (A : List Ln) : (BU A).length = A.length * 3 := by
 induction A with
 | nil => rfl
 | cons a A ih => unfold BU aC at *; rw [List.map_cons, List.flatten_cons, List.length_append, ih, List.length_cons]; simp [aI]; omega
theorem Kk (A : List Ln) : aO (BU A) := aF.2 fun d hd => by
 obtain ⟨r, hr, hd⟩ := List.mem_flatten.1 hd
 exact aF.1 (rJ.1 (aB A) r hr) d hd
theorem BW (A : List Ln) (x : Ln) : BU (A ++ [x]) = BU A ++ aI x := by simp [BU, aC]
theorem JD (n st m : Nat) (A : List Ln) : KpC n (.cells false ((BU A).map fun d => Cell.o d st) m) := fun c hc => by
 obtain ⟨d, hd, rfl⟩ := List.mem_map.1 hc
 obtain ⟨r, hr, hd⟩ := List.mem_flatten.1 hd
 obtain ⟨x, _, rfl⟩ := List.mem_map.1 hr
 simp only [aI, List.mem_cons, List.not_mem_nil, or_false] at hd
 rcases hd with rfl | rfl | rfl <;> simp [Kp, Cell.d, Pu]
def HH : List Ln -> D
 | [] => .ns
 | _ :: s => .sl (.o (.o .h)) 0 (s.length + 1) s.length 3
def Xz : List Ln -> Option C
 | [] => none
 | a :: s => some (.cells false ((BU (a :: s)).map fun d => Cell.o d s.length) (s.length + 1))
def qY : List Ln -> Pos
 | [] => .i .h
 | _ :: _ => .i (.o .h)
def Ll (B L : C) (A : List Ln) : T C := .n (.n (.n .e (Xz A) .e) (some L) .e) (some B) .e
theorem Dx (A A' : List Ln) : (qY A).nat <= (qY (A ++ A')).nat := by
 cases A with
 | nil => cases A' <;> simp [qY, Pos.nat]
 | cons a A => simp [qY]
theorem Bc (A : List Ln) : 3 <= (qY A).nat := by cases A <;> simp [qY, Pos.nat]
theorem DH (A : List Ln) : Kp (qY A).nat (HH A) := by
 cases A <;> simp [HH, qY, Kp, Pos.nat, Pu]
theorem DW {B L : C} (A : List Ln) (hB : ∀ m, KpC m B) (hL : ∀ m, KpC m L) : KpO (qY A).nat (Ll B L A) := by
 cases A with
 | nil =>
   show TAll (fun id c => id.nat < 3 /\ KpC 3 c) _
   unfold Ll Xz
   exact TAll.some (TAll.some (TAll.none TAll.e TAll.e) ⟨by simp [Pos.nat], hL _⟩ TAll.e) ⟨by simp [Pos.nat], hB _⟩ TAll.e
 | cons a s =>
   show TAll (fun id c => id.nat < 5 /\ KpC 5 c) _
   unfold Ll Xz
   exact TAll.some (TAll.some (TAll.some TAll.e ⟨by simp [Pos.nat], JD _ _ _ _⟩ TAll.e) ⟨by simp [Pos.nat], hL _⟩ TAll.e) ⟨by simp [Pos.nat], hB _⟩ TAll.e
theorem Dm (n coin box : Int) (ls : List Ln) (cs : List Ct) (l : Ln) (hn : 0 <= n /\ n <= 4) : PureF Try.prog p93.ix [.ag (CT n coin box ls cs), .ag (aI l)] (.lst 3 (aC aI (pL n l))) := by
 have hn0 : ((n.toNat : Nat) : Int) = n := by omega
 have h4 : n.toNat <= 4 := by omega
 obtain ⟨N, hN⟩ : ∃ N : Nat, N = n.toNat := ⟨_, rfl⟩
 have kpB := AI n coin box ls cs
 have kpL := Oc l
 refine PureF.run XN (by simp) (by simp [aO, dF, Pu, CT, aI, aB, aE]) ?_; conv => whnf
 refine Qg ?_
 refine Rn.loop (fun i : Nat => ⟨(.n (.n (.n .e (some (.pt (.o .h) 0 0)) .e) none (.n .e (some (HH (BF n l i))) .e)) none (.n .e (some (.pt .h 0 0)) (.n .e (some (.i .i64 ((i : Int) + 1))) .e))), Ll (Al n coin box ls cs) (LZ l) (BF n l i), qY (BF n l i), none⟩) (fun i => i <= 2) (fun i => 2 - i) 0 ?_ ?_ ?_
 ·refine X.le.mk ?_ ?_ (Nat.le_refl _) rfl rfl
  ·exact eN
  ·exact Lw
 ·omega
 intro i hi
 have hi : i <= 2 := hi
 have hiA := FN n l h4 i
 have VY : i = 2 -> BF n l i = pL n l := fun e => by rw [e]; rfl
 have hiN : BF n l (i + 1) = BF n l i ++ hJ n l ((i : Int) + 1) n.toNat := rfl
 generalize hA : BF n l i = A at *
 conv => whnf
 refine Qg ?_
 refine WB.dec (fun h => ?_) (fun h => ?_) <;> conv => whnf
 ·have hi2 : i < 2 := by omega
  refine Qg ?_
  refine Rn.loop (fun j : Nat => ⟨(.n (.n (.n (.n .e (some (.i .i64 (j : Int))) .e) (some (.pt (.o .h) 0 0)) .e) none (.n .e (some (HH (A ++ hJ n l ((i : Int) + 1) j))) .e)) none (.n .e (some (.pt .h 0 0)) (.n .e (some (.i .i64 ((i : Int) + 1))) .e))), Ll (Al n coin box ls cs) (LZ l) (A ++ hJ n l ((i : Int) + 1) j), qY (A ++ hJ n l ((i : Int) + 1) j), none⟩) (fun j => j <= n.toNat) (fun j => n.toNat - j) 0 ?_ ?_ ?_
  ·have e0 : A ++ hJ n l ((i : Int) + 1) 0 = A := List.append_nil A
   simp only [e0]
   refine X.le.mk ?_ (T.le_refl _) (Nat.le_refl _) rfl rfl
   show T.le ((.n (.n (.n (.n .e (some (.i .i64 0)) .e) (some (.pt (.o .h) 0 0)) .e) none (.n .e (some (HH A)) .e)) none (.n .e (some (.pt .h 0 0)) (.n .e (some (.i .i64 ((i : Int) + 1))) .e))) : T D) _
   exact eN
  ·exact Nat.zero_le _
  intro j hj
  have hj : j <= n.toNat := hj
  have hjA := Bg n l ((i : Int) + 1) h4 j
  have hjE : j = n.toNat -> A ++ hJ n l ((i : Int) + 1) j = BF n l (i + 1) := fun e => by rw [hiN, e]
  have hjN : A ++ hJ n l ((i : Int) + 1) (j + 1) = (A ++ hJ n l ((i : Int) + 1) j) ++ sK n l ((i : Int) + 1) (j : Int) n.toNat := by
   rw [List.append_assoc]; rfl
  have hBl : (A ++ hJ n l ((i : Int) + 1) j).length <= 1000 := by rw [List.length_append]; omega
  have hupj := Dx A (hJ n l ((i : Int) + 1) j)
  generalize hB : A ++ hJ n l ((i : Int) + 1) j = B at *
  conv => whnf
  refine Qg ?_
  refine WB.dec (fun h => ?_) (fun h => ?_) <;> conv => whnf
  ·have hjn : j < n.toNat := by omega
   refine Qg ?_
   refine Rn.loop (fun k : Nat => ⟨(.n (.n (.n (.n .e (some (.i .i64 (j : Int))) .e) (some (.pt (.o .h) 0 0)) .e) none (.n .e (some (HH (B ++ sK n l ((i : Int) + 1) (j : Int) k))) .e)) none (.n (.n (.n .e (some (.i .i64 (k : Int))) .e) none .e) (some (.pt .h 0 0)) (.n .e (some (.i .i64 ((i : Int) + 1))) .e))), Ll (Al n coin box ls cs) (LZ l) (B ++ sK n l ((i : Int) + 1) (j : Int) k), qY (B ++ sK n l ((i : Int) + 1) (j : Int) k), none⟩) (fun k => k <= n.toNat) (fun k => n.toNat - k) 0 ?_ ?_ ?_
   ·have e0 : B ++ sK n l ((i : Int) + 1) (j : Int) 0 = B := List.append_nil B
    simp only [e0]
    refine X.le.mk ?_ (T.le_refl _) (Nat.le_refl _) rfl rfl
    show T.le ((.n (.n (.n (.n .e (some (.i .i64 (j : Int))) .e) (some (.pt (.o .h) 0 0)) .e) none (.n .e (some (HH B)) .e)) none (.n (.n (.n .e (some (.i .i64 0)) .e) none .e) (some (.pt .h 0 0)) (.n .e (some (.i .i64 ((i : Int) + 1))) .e))) : T D) _
    exact eN
   ·exact Nat.zero_le _
   intro k hk
   have hk : k <= n.toNat := hk
   have hkA := AS n l ((i : Int) + 1) (j : Int) k
   have hkE : k = n.toNat -> B ++ sK n l ((i : Int) + 1) (j : Int) k = A ++ hJ n l ((i : Int) + 1) (j + 1) := fun e => by rw [hjN, e]
   have hkN : B ++ sK n l ((i : Int) + 1) (j : Int) (k + 1) = (B ++ sK n l ((i : Int) + 1) (j : Int) k) ++ bif pV l ⟨(i : Int) + 1, (j : Int), (k : Int)⟩ then [⟨(i : Int) + 1, (j : Int), (k : Int)⟩] else [] := by
    rw [List.append_assoc]; rfl
   have hCl : (B ++ sK n l ((i : Int) + 1) (j : Int) k).length <= 1004 := by rw [List.length_append]; omega
   have hupk := Dx B (sK n l ((i : Int) + 1) (j : Int) k)
   generalize hC : B ++ sK n l ((i : Int) + 1) (j : Int) k = E at *
   have hupE := Dx E
   have hst : ∀ (E' : List Ln), B ++ sK n l ((i : Int) + 1) (j : Int) (k + 1) = E' -> (⟨(.n (.n (.n (.n .e (some (.i .i64 (j : Int))) .e) (some (.pt (.o .h) 0 0)) .e) none (.n .e (some (HH (B ++ sK n l ((i : Int) + 1) (j : Int) (k + 1)))) .e)) none (.n (.n (.n .e (some (.i .i64 ((k + 1 : Nat) : Int))) .e) none .e) (some (.pt .h 0 0)) (.n .e (some (.i .i64 ((i : Int) + 1))) .e))), Ll (Al n coin box ls cs) (LZ l) (B ++ sK n l ((i : Int) + 1) (j : Int) (k + 1)), qY (B ++ sK n l ((i : Int) + 1) (j : Int) (k + 1)), none⟩ : X) = ⟨(.n (.n (.n (.n .e (some (.i .i64 (j : Int))) .e) (some (.pt (.o .h) 0 0)) .e) none (.n .e (some (HH E')) .e)) none (.n (.n (.n .e (some (.i .i64 ((k + 1 : Nat) : Int))) .e) none .e) (some (.pt .h 0 0)) (.n .e (some (.i .i64 ((i : Int) + 1))) .e))), Ll (Al n coin box ls cs) (LZ l) E', qY E', none⟩ := fun E' h => by rw [h]
   have cA := JA l ⟨(i : Int) + 1, (j : Int), (k : Int)⟩
   conv => whnf
   refine Qg ?_
   refine WB.dec (fun h => ?_) (fun h => ?_) <;> conv => whnf
   ·have hkn : k < n.toNat := by omega
    cases hag : pV l ⟨(i : Int) + 1, (j : Int), (k : Int)⟩ with
    | true =>
      rw [hag, cond_true] at hkN
      rw [hag] at cA
      cases E with
      | nil =>
        repeat' ((first | refine Qz ?_ | refine Qf cA ?_) <;> conv => whnf)
        refine WSt.app_first (r := aI ⟨(i : Int) + 1, (j : Int), (k : Int)⟩) rfl (.inl rfl) rfl rfl rfl rfl ?_; conv => whnf
        refine Qg ?_
        refine Again.to (k + 1) (by omega) (by omega) ?_ ?_
        ·show (qY (B ++ sK n l ((i : Int) + 1) (j : Int) k)).nat <= (qY (B ++ sK n l ((i : Int) + 1) (j : Int) (k + 1))).nat
         rw [hC, hkN]; exact hupE _
        ·rw [hst _ hkN]
         refine Shr.of ?_ ?_ rfl rfl
         ·exact Rw
         ·(repeat' first | exact Rel.e | refine Rel.some ?_ ?_ ?_ | refine Rel.none ?_ ?_ | refine Rel.ee ?_ ?_)
          all_goals first
           | exact Ro (ShC.kp (kpB _))
           | exact Ro (ShC.kp (kpL _))
           | exact Ro (ShC.same (ShC.cn (.pu trivial) (ShC.cn (.pu trivial) (ShC.cn (.pu trivial) ShC.nl))))
      | cons a s =>
        repeat' ((first | refine Qz ?_ | refine Qf cA ?_) <;> conv => whnf)
        refine WSt.app_one (ds := BU (a :: s)) (r := aI ⟨(i : Int) + 1, (j : Int), (k : Int)⟩) rfl rfl rfl rfl rfl rfl (by rw [EZ]; rfl) rfl rfl (by simp at hCl; omega) rfl ?_; conv => whnf
        refine Qg ?_
        refine Again.to (k + 1) (by omega) (by omega) ?_ ?_
        ·show (qY (B ++ sK n l ((i : Int) + 1) (j : Int) k)).nat <= (qY (B ++ sK n l ((i : Int) + 1) (j : Int) (k + 1))).nat
         rw [hC, hkN]; exact hupE _
        ·rw [hst _ hkN]
         refine Shr.of ?_ ?_ rfl rfl
         ·show Rel _ _ ((.n (.n (.n (.n .e (some (.i .i64 (j : Int))) .e) (some (.pt (.o .h) 0 0)) .e) none (.n .e (some (.sl (.o (.o .h)) 0 ((s ++ [(⟨(i : Int) + 1, (j : Int), (k : Int)⟩ : Ln)]).length + 1) (s ++ [(⟨(i : Int) + 1, (j : Int), (k : Int)⟩ : Ln)]).length 3)) .e)) none (.n (.n (.n .e (some (.i .i64 ((k + 1 : Nat) : Int))) .e) none .e) (some (.pt .h 0 0)) (.n .e (some (.i .i64 ((i : Int) + 1))) .e))) : T D) _
          rw [List.length_append, List.length_singleton]
          exact Rw
         ·show Rel _ _ (T.n (.n (.n .e (some (.cells false ((BU ((a :: s) ++ [(⟨(i : Int) + 1, (j : Int), (k : Int)⟩ : Ln)])).map fun d => Cell.o d (s ++ [(⟨(i : Int) + 1, (j : Int), (k : Int)⟩ : Ln)]).length) ((s ++ [(⟨(i : Int) + 1, (j : Int), (k : Int)⟩ : Ln)]).length + 1))) .e) (some (LZ l)) .e) (some (Al n coin box ls cs)) .e : T C) _
          rw [List.length_append, List.length_singleton, BW]
          (repeat' first | exact Rel.e | refine Rel.some ?_ ?_ ?_ | refine Rel.none ?_ ?_ | refine Rel.ee ?_ ?_)
          all_goals first
           | exact Ro (ShC.kp (kpB _))
           | exact Ro (ShC.kp (kpL _))
           | (refine Ro ?_
              refine ShC.grown (by omega) (aF.2 fun d hd => ?_)
              rcases List.mem_append.1 hd with hd | hd
              ·exact aF.1 (Kk _) d hd
              ·simp only [aI, List.mem_cons, List.mem_nil_iff, or_false] at hd
               rcases hd with rfl | rfl | rfl <;> exact trivial)
    | false =>
      rw [hag, cond_false, List.append_nil] at hkN
      rw [hag] at cA
      repeat' ((first | refine Qz ?_ | refine Qf cA ?_) <;> conv => whnf)
      refine Again.to (k + 1) (by omega) (by omega) ?_ ?_
      ·show (qY (B ++ sK n l ((i : Int) + 1) (j : Int) k)).nat <= (qY (B ++ sK n l ((i : Int) + 1) (j : Int) (k + 1))).nat
       rw [hC, hkN]; exact Nat.le_refl _
      ·rw [hst _ hkN]
       refine Shr.kp2 ?_ ?_ (T.le_refl _) (DW E kpB kpL)
       ·exact eN
       ·have h3 := Bc E
        show TAll (fun _ d => Kp (qY E).nat d) _
        repeat' first | exact TAll.e | refine TAll.some ?_ ?_ ?_ | refine TAll.none ?_ ?_
        all_goals first | exact DH E | (simp [Kp, Pu, Pos.nat]; done) | (simp [Kp, Pos.nat]; omega)
   ·have he := hkE (by omega)
    refine Qg ?_
    refine Again.to (j + 1) (by omega) (by omega) ?_ ?_
    ·show (qY (A ++ hJ n l ((i : Int) + 1) j)).nat <= (qY (A ++ hJ n l ((i : Int) + 1) (j + 1))).nat
     rw [hB, <- he]; exact hupk
    ·show Shr _ (⟨(.n (.n (.n (.n .e (some (.i .i64 ((j + 1 : Nat) : Int))) .e) (some (.pt (.o .h) 0 0)) .e) none (.n .e (some (HH (A ++ hJ n l ((i : Int) + 1) (j + 1)))) .e)) none (.n .e (some (.pt .h 0 0)) (.n .e (some (.i .i64 ((i : Int) + 1))) .e))), Ll (Al n coin box ls cs) (LZ l) (A ++ hJ n l ((i : Int) + 1) (j + 1)), qY (A ++ hJ n l ((i : Int) + 1) (j + 1)), none⟩)
     rw [<- he]
     refine Shr.kp2 ?_ ?_ (T.le_refl _) (DW E kpB kpL)
     ·exact eN
     ·have h3 := Bc E
      show TAll (fun _ d => Kp (qY E).nat d) _
      repeat' first | exact TAll.e | refine TAll.some ?_ ?_ ?_ | refine TAll.none ?_ ?_
      all_goals first | exact DH E | (simp [Kp, Pu, Pos.nat]; done) | (simp [Kp, Pos.nat]; omega)
  ·have he := hjE (by omega)
   refine Qg ?_
   refine Again.to (i + 1) (by omega) (by omega) ?_ ?_
   ·show (qY (BF n l i)).nat <= (qY (BF n l (i + 1))).nat
    rw [hA, <- he]; exact hupj
   ·show Shr _ (⟨(.n (.n (.n .e (some (.pt (.o .h) 0 0)) .e) none (.n .e (some (HH (BF n l (i + 1)))) .e)) none (.n .e (some (.pt .h 0 0)) (.n .e (some (.i .i64 (((i + 1 : Nat) : Int) + 1))) .e))), Ll (Al n coin box ls cs) (LZ l) (BF n l (i + 1)), qY (BF n l (i + 1)), none⟩)
    rw [<- he]
    refine Shr.kp2 ?_ ?_ (T.le_refl _) (DW B kpB kpL)
    ·exact eN
    ·have h3 := Bc B
     show TAll (fun _ d => Kp (qY B).nat d) _
     repeat' first | exact TAll.e | refine TAll.some ?_ ?_ ?_ | refine TAll.none ?_ ?_
     all_goals first | exact DH B | (simp [Kp, Pu, Pos.nat]; done) | (simp [Kp, Pos.nat]; omega)
 ·refine Qg ?_
  have he := VY (by omega)
  subst he
  refine Fin.t (.inr rfl) rfl ?_
  cases hT : pL n l with
  | nil => exact .ns
  | cons a s =>
    exact Frz.whole (cs := (BU (a :: s)).map fun d => Cell.o d s.length) (cur := s.length + 1) rfl (by simp [aC]) (dJ _) rfl (aB _)
theorem kM {α : Type} {β : Type} (g : β -> α -> β) (b : β) {l : List α} {j : Nat} {d : α} (h : j < l.length) : (l.take (j + 1)).foldl g b = g ((l.take j).foldl g b) (l.getD j d) := by
 rw [aM (d := d) h, List.foldl_append]; rfl
theorem Ao (n coin box : Int) (ls : List Ln) (cs : List Ct) (hn : 1 <= n /\ n <= 4) (hl : ls.length <= 1000) (hok : ls.all (cL n) = true) : PureF Try.prog p63.ix [.ag (CT n coin box ls cs)] (.i .i64 (eL n ls)) := by
 have e1 := aD aI ls
 refine PureF.run XS (by simp) (by simp [aO, dF, Pu, CT, aB, aE]) ?_; conv => whnf
 refine Qg ?_
 refine Rn.loop (fun j : Nat => ⟨(.n (.n (.n .e (some (.i .i64 (eL n (ls.take j)))) .e) (some (.pt .h 0 0)) .e) none (.n (.n .e (some (.i .i64 (j : Int))) .e) none .e)), (.n .e (some (Al n coin box ls cs)) .e), .o .h, none⟩) (fun j => j <= ls.length) (fun j => ls.length - j) 0 ?_ ?_ ?_
 ·refine X.le.mk ?_ ?_ (Nat.le_refl _) rfl rfl
  ·exact eN
  ·exact Lw
 ·exact Nat.zero_le _
 intro j hj
 have hj : j <= ls.length := hj
 have hmp := fQ hn.1 hn.2 (ls.take j)
 conv => whnf
 refine Qg ?_
 refine WB.dec (fun h => ?_) (fun h => ?_) <;> conv => whnf
 ·have hlt : j < ls.length := by omega
  have hs : eL n (ls.take (j + 1)) = min 5000 (eL n (ls.take j) * kU n (ls.getD j default)) := kM _ _ hlt
  have hlo := List.all_eq_true.1 hok _ (bS (d := default) hlt)
  have hrl := CP hn hlo
  have hrb := oC hn.1 hn.2 (ls.getD j default)
  have er := aD aI (pL n (ls.getD j default))
  have cR := Dm n coin box ls cs (ls.getD j default) (by omega)
  have hm1 : 1 <= eL n (ls.take j) /\ eL n (ls.take j) <= 5000 := by omega
  have hmul : 1 <= eL n (ls.take j) * kU n (ls.getD j default) /\ eL n (ls.take j) * kU n (ls.getD j default) <= 160000 := by
   have a1 := Int.mul_le_mul hm1.1 hrb.1 (by omega) (by omega)
   have a2 := Int.mul_le_mul hm1.2 hrb.2 (by omega) (by omega)
   omega
  have hmul2 : eL n (ls.take j) * ((aC aI (pL n (ls.getD j default))).length : Int) = eL n (ls.take j) * kU n (ls.getD j default) := by rw [er, hrl]
  repeat' ((first | refine Qz ?_ | refine Qf cR ?_) <;> conv => whnf)
  refine Again.to (j + 1) (by omega) (by omega) (Nat.le_refl _) ?_
  rw [hs]
  refine Shr.of ?_ ?_ rfl rfl
  ·(repeat' first | exact Rel.e | refine Rel.some ?_ ?_ ?_ | refine Rel.none ?_ ?_ | refine Rel.ee ?_ ?_)
   all_goals show Fz _ _ _ _
   all_goals first | exact Fy | (refine Fz.i ?_; rw [hmul2])
  ·(repeat' first | exact Rel.e | refine Rel.some ?_ ?_ ?_ | refine Rel.none ?_ ?_ | refine Rel.ee ?_ ?_)
   exact Ro (ShC.kp (AI _ _ _ _ _ _))
 ·refine Qg ?_
  exact Fin.i rfl (by rw [List.take_of_length_le (by omega)])
theorem lQ {n coin box : Int} {ls : List Ln} {cs : List Ct} (hlim : ¬ (8 < ls.length \/ 4 < cs.length)) (hv : kR n coin box ls cs = false) : aS n coin box ls cs = 1 := by
 unfold aS
 rw [if_neg hlim, hv]; rfl
theorem Og {n coin box : Int} {ls : List Ln} {cs : List Ct} {j : Nat} (hj : j < ls.length) (h : cL n (ls.getD j default) = false) : kR n coin box ls cs = false := by
 have : ls.all (cL n) = false := by
  rw [List.all_eq_false]
  exact ⟨_, bS (d := default) hj, by rw [h]; simp⟩
 unfold kR
 rw [this]; simp
theorem OA {n coin box : Int} {ls : List Ln} {cs : List Ct} {j : Nat} (hj : j < cs.length) (h : rU ls.length (cs.getD j default) = false) : kR n coin box ls cs = false := by
 have : cs.all (rU ls.length) = false := by
  rw [List.all_eq_false]
  exact ⟨_, bS (d := default) hj, by rw [h]; simp⟩
 unfold kR
 rw [this]; simp
theorem Fi (n coin box : Int) (ls : List Ln) (cs : List Ct) : PureF Try.prog p70.ix [.ag (CT n coin box ls cs)] (.i .i64 (aS n coin box ls cs)) := by
 have e1 := aD aI ls
 have e2 := aD cY cs
 have kpB := AI n coin box ls cs
 refine PureF.run YH (by simp) (by simp [aO, dF, Pu, CT, aB, aE]) ?_; conv => whnf
 by_cases hlim : 8 < ls.length \/ 4 < cs.length
 ·have hf : aS n coin box ls cs = 3 := by unfold aS; rw [if_pos hlim]
  rw [hf]
  rcases hlim with hlim | hlim
  ·repeat' ((first | refine Qw ?_ | refine Qd (fun h => ?_) (fun h => ?_)) <;> conv => whnf)
   all_goals first | exact Fin.i rfl rfl | (exfalso; omega)
  ·by_cases h8 : 8 < ls.length
   ·repeat' ((first | refine Qw ?_ | refine Qd (fun h => ?_) (fun h => ?_)) <;> conv => whnf)
    all_goals first | exact Fin.i rfl rfl | (exfalso; omega)
   ·repeat' ((first | refine Qw ?_ | refine Qd (fun h => ?_) (fun h => ?_)) <;> conv => whnf)
    all_goals first | exact Fin.i rfl rfl | (exfalso; omega)
 have h8 : ¬ 8 < ls.length := fun h => hlim (.inl h)
 have h4 : ¬ 4 < cs.length := fun h => hlim (.inr h)
 cases b1 : gE n 1 4 with
 | false =>
   have c1 := nW n 1 4
   rw [b1] at c1
   have hf := lQ (n := n) (coin := coin) (box := box) hlim (by unfold kR; rw [b1]; rfl)
   repeat' ((first | refine Qw ?_ | refine Qf c1 ?_ | refine Qd (fun h => ?_) (fun h => ?_)) <;> conv => whnf)
   all_goals first | exact Fin.i rfl hf.symm | (exfalso; omega)
 | true =>
 cases b2 : gE coin 1 99 with
 | false =>
   have c1 := nW n 1 4
   have c2 := nW coin 1 99
   rw [b1] at c1
   rw [b2] at c2
   have hf := lQ (n := n) (coin := coin) (box := box) hlim (by unfold kR; rw [b1, b2]; rfl)
   repeat' ((first | refine Qw ?_ | refine Qf c1 ?_ | refine Qf c2 ?_ | refine Qd (fun h => ?_) (fun h => ?_)) <;> conv => whnf)
   all_goals first | exact Fin.i rfl hf.symm | (exfalso; omega)
 | true =>
 cases b3 : gE box 0 999 with
 | false =>
   have c1 := nW n 1 4
   have c2 := nW coin 1 99
   have c3 := nW box 0 999
   rw [b1] at c1
   rw [b2] at c2
   rw [b3] at c3
   have hf := lQ (n := n) (coin := coin) (box := box) hlim (by unfold kR; rw [b1, b2, b3]; rfl)
   repeat' ((first | refine Qw ?_ | refine Qf c1 ?_ | refine Qf c2 ?_ | refine Qf c3 ?_ | refine Qd (fun h => ?_) (fun h => ?_)) <;> conv => whnf)
   all_goals first | exact Fin.i rfl hf.symm | (exfalso; omega)
 | true =>
 have c1 := nW n 1 4
 have c2 := nW coin 1 99
 have c3 := nW box 0 999
 rw [b1] at c1
 rw [b2] at c2
 rw [b3] at c3
 have hn := aP.1 b1
 repeat' ((first | refine Qw ?_ | refine Qf c1 ?_ | refine Qf c2 ?_ | refine Qf c3 ?_ | refine Qd (fun h => ?_) (fun h => ?_)) <;> conv => whnf)
 refine Rn.loop (fun j : Nat => ⟨(.n (.n (.n .e (some (.i .i64 (j : Int))) .e) (some (.pt .h 0 0)) .e) none .e), (.n .e (some (Al n coin box ls cs)) .e), .o .h, none⟩) (fun j => j <= ls.length /\ (ls.take j).all (cL n) = true) (fun j => ls.length - j) 0 ?_ ?_ ?_
 ·refine X.le.mk ?_ ?_ (Nat.le_refl _) rfl rfl
  ·exact eN
  ·exact Lw
 ·exact ⟨Nat.zero_le _, rfl⟩
 rintro j ⟨hj, ha⟩
 conv => whnf
 refine Qg ?_
 refine WB.dec (fun h => ?_) (fun h => ?_) <;> conv => whnf
 ·have hlt : j < ls.length := by omega
  obtain ⟨x, hx⟩ : ∃ x, x = ls.getD j default := ⟨_, rfl⟩
  have d1 := nW x.k 0 2
  have d2 := nW x.c (-1) (n - 1)
  have d3 := nW x.t (-1) (n - 1)
  have hbad : cL n x = false -> aS n coin box ls cs = 1 := fun h => lQ hlim (Og hlt (by rw [<- hx]; exact h))
  have hgood : cL n x = true -> (ls.take (j + 1)).all (cL n) = true := fun h => by
   rw [aM (d := default) hlt, List.all_append, ha, <- hx]
   simp [h]
  have hok : cL n x = (gE x.k 0 2 && (gE x.c (-1) (n - 1) && gE x.t (-1) (n - 1))) := rfl
  have hst : ∀ (sl : T D) (ob : T C) (nx : Pos), T.le ((.n (.n (.n .e (some (.i .i64 ((j + 1 : Nat) : Int))) .e) (some (.pt .h 0 0)) .e) none .e) : T D) sl -> T.le ((.n .e (some (Al n coin box ls cs)) .e) : T C) ob -> Shr ⟨sl, ob, nx, none⟩ ⟨(.n (.n (.n .e (some (.i .i64 ((j + 1 : Nat) : Int))) .e) (some (.pt .h 0 0)) .e) none .e), (.n .e (some (Al n coin box ls cs)) .e), .o .h, none⟩ := fun sl ob nx hs ho => by
   refine Shr.kp2 hs ?_ ho ?_
   ·show TAll (fun _ d => Kp 2 d) _
    repeat' first | exact TAll.e | refine TAll.some ?_ ?_ ?_ | refine TAll.none ?_ ?_
    all_goals simp [Kp, Pu, Pos.nat]
   ·show TAll (fun id c => id.nat < 2 /\ KpC 2 c) _
    exact TAll.some TAll.e ⟨by simp [Pos.nat], kpB _⟩ TAll.e
  rw [hx] at d1 d2 d3
  cases q1 : gE (ls.getD j default).k 0 2 with
  | false =>
    rw [q1] at d1
    have hf := hbad (by rw [hok, hx, q1]; rfl)
    repeat' ((first | refine Qw ?_ | refine Qf d1 ?_ | refine Qd (fun h => ?_) (fun h => ?_)) <;> conv => whnf)
    exact Fin.i rfl hf.symm
  | true =>
  cases q2 : gE (ls.getD j default).c (-1) (n - 1) with
  | false =>
    rw [q1] at d1
    rw [q2] at d2
    have hf := hbad (by rw [hok, hx, q1, q2]; rfl)
    repeat' ((first | refine Qw ?_ | refine Qf d1 ?_ | refine Qf d2 ?_ | refine Qd (fun h => ?_) (fun h => ?_)) <;> conv => whnf)
    exact Fin.i rfl hf.symm
  | true =>
  cases q3 : gE (ls.getD j default).t (-1) (n - 1) with
  | false =>
    rw [q1] at d1
    rw [q2] at d2
    rw [q3] at d3
    have hf := hbad (by rw [hok, hx, q1, q2, q3]; rfl)
    repeat' ((first | refine Qw ?_ | refine Qf d1 ?_ | refine Qf d2 ?_ | refine Qf d3 ?_ | refine Qd (fun h => ?_) (fun h => ?_)) <;> conv => whnf)
    exact Fin.i rfl hf.symm
  | true =>
    rw [q1] at d1
    rw [q2] at d2
    rw [q3] at d3
    have hg := hgood (by rw [hok, hx, q1, q2, q3]; rfl)
    repeat' ((first | refine Qw ?_ | refine Qf d1 ?_ | refine Qf d2 ?_ | refine Qf d3 ?_ | refine Qd (fun h => ?_) (fun h => ?_)) <;> conv => whnf)
    refine Again.to (j + 1) (by omega) ⟨by omega, hg⟩ (Nat.le_refl _) (hst _ _ _ ?_ ?_)
    ·exact eN
    ·exact Lw
 have hall : ls.all (cL n) = true := by rwa [List.take_of_length_le (by omega)] at ha
 refine Qg ?_
 refine Rn.loop (fun j : Nat => ⟨(.n (.n .e (some (.pt .h 0 0)) (.n .e (some (.i .i64 (j : Int))) .e)) none .e), (.n .e (some (Al n coin box ls cs)) .e), .o .h, none⟩) (fun j => j <= cs.length /\ (cs.take j).all (rU ls.length) = true) (fun j => cs.length - j) 0 ?_ ?_ ?_
 ·refine X.le.mk ?_ ?_ (Nat.le_refl _) rfl rfl
  ·exact eN
  ·exact Lw
 ·exact ⟨Nat.zero_le _, rfl⟩
 rintro q ⟨hq, hb⟩
 conv => whnf
 refine Qg ?_
 refine WB.dec (fun h => ?_) (fun h => ?_) <;> conv => whnf
 ·have hlt : q < cs.length := by omega
  have d1 := nW (cs.getD q default).a 0 ((aC aI ls).length : Int)
  have hbad : rU ls.length (cs.getD q default) = false -> aS n coin box ls cs = 1 := fun h => lQ hlim (OA hlt h)
  have hgood : rU ls.length (cs.getD q default) = true -> (cs.take (q + 1)).all (rU ls.length) = true := fun h => by
   rw [aM (d := default) hlt, List.all_append, hb, Bool.true_and, List.all_cons, List.all_nil, Bool.and_true]
   exact h
  have hok : rU ls.length (cs.getD q default) = (gE (cs.getD q default).a 0 ((aC aI ls).length : Int) && (decide (0 <= (cs.getD q default).lo) && (decide ((cs.getD q default).lo <= (cs.getD q default).hi) && decide ((cs.getD q default).hi <= 2000)))) := by rw [e1]; rfl
  have hst : ∀ (sl : T D) (ob : T C) (nx : Pos), T.le ((.n (.n .e (some (.pt .h 0 0)) (.n .e (some (.i .i64 ((q + 1 : Nat) : Int))) .e)) none .e) : T D) sl -> T.le ((.n .e (some (Al n coin box ls cs)) .e) : T C) ob -> Shr ⟨sl, ob, nx, none⟩ ⟨(.n (.n .e (some (.pt .h 0 0)) (.n .e (some (.i .i64 ((q + 1 : Nat) : Int))) .e)) none .e), (.n .e (some (Al n coin box ls cs)) .e), .o .h, none⟩ := fun sl ob nx hs ho => by
   refine Shr.kp2 hs ?_ ho ?_
   ·show TAll (fun _ d => Kp 2 d) _
    repeat' first | exact TAll.e | refine TAll.some ?_ ?_ ?_ | refine TAll.none ?_ ?_
    all_goals simp [Kp, Pu, Pos.nat]
   ·show TAll (fun id c => id.nat < 2 /\ KpC 2 c) _
    exact TAll.some TAll.e ⟨by simp [Pos.nat], kpB _⟩ TAll.e
  cases q1 : gE (cs.getD q default).a 0 ((aC aI ls).length : Int) with
  | false =>
    rw [q1] at d1
    have hf := hbad (by rw [hok, q1]; rfl)
    repeat' ((first | refine Qw ?_ | refine Qf d1 ?_ | refine Qd (fun h => ?_) (fun h => ?_)) <;> conv => whnf)
    exact Fin.i rfl hf.symm
  | true =>
  rw [q1] at d1
  rw [q1, Bool.true_and] at hok
  by_cases k1 : 0 <= (cs.getD q default).lo
  ·by_cases k2 : (cs.getD q default).lo <= (cs.getD q default).hi
   ·by_cases k3 : (cs.getD q default).hi <= 2000
    ·have hg := hgood (by rw [hok, decide_eq_true k1, decide_eq_true k2, decide_eq_true k3]; rfl)
     repeat' ((first | refine Qw ?_ | refine Qf d1 ?_ | refine Qd (fun h => ?_) (fun h => ?_)) <;> conv => whnf)
     refine Again.to (q + 1) (by omega) ⟨by omega, hg⟩ (Nat.le_refl _) (hst _ _ _ ?_ ?_)
     ·exact eN
     ·exact Lw
    ·have hf := hbad (by rw [hok, decide_eq_true k1, decide_eq_true k2, decide_eq_false k3]; rfl)
     repeat' ((first | refine Qw ?_ | refine Qf d1 ?_ | refine Qd (fun h => ?_) (fun h => ?_)) <;> conv => whnf)
     all_goals exact Fin.i rfl hf.symm
   ·have hf := hbad (by rw [hok, decide_eq_true k1, decide_eq_false k2]; rfl)
    repeat' ((first | refine Qw ?_ | refine Qf d1 ?_ | refine Qd (fun h => ?_) (fun h => ?_)) <;> conv => whnf)
    all_goals exact Fin.i rfl hf.symm
  ·have hf := hbad (by rw [hok, decide_eq_false k1]; rfl)
   repeat' ((first | refine Qw ?_ | refine Qf d1 ?_ | refine Qd (fun h => ?_) (fun h => ?_)) <;> conv => whnf)
   all_goals exact Fin.i rfl hf.symm
 have hallc : cs.all (rU ls.length) = true := by rwa [List.take_of_length_le (by omega)] at hb
 have cM := Ao n coin box ls cs hn (by omega) hall
 have hf : aS n coin box ls cs = if 4096 < eL n ls then 3 else 0 := by
  unfold aS
  rw [if_neg hlim, if_pos (by unfold kR; rw [b1, b2, b3, hall, hallc]; rfl)]
 by_cases hm : 4096 < eL n ls
 ·rw [if_pos hm] at hf
  repeat' ((first | refine Qw ?_ | refine Qf cM ?_ | refine Qd (fun h => ?_) (fun h => ?_)) <;> conv => whnf)
  all_goals exact Fin.i rfl hf.symm
 ·rw [if_neg hm] at hf
  repeat' ((first | refine Qw ?_ | refine Qf cM ?_ | refine Qd (fun h => ?_) (fun h => ?_)) <;> conv => whnf)
  all_goals exact Fin.i rfl hf.symm
def EL (n coin box : Int) (ls : List Ln) (cs : List Ct) : Bool := decide (ls.length <= 10) && (decide (cs.length <= 6) && (!decide (aS n coin box ls cs = 0) || decide (eL n ls <= 100)))
theorem PP (n coin box : Int) (ls : List Ln) (cs : List Ct) : PureF Try.prog p21.ix [.ag (CT n coin box ls cs)] (.b (EL n coin box ls cs)) := by
 have e1 := aD aI ls
 have e2 := aD cY cs
 have cF := Fi n coin box ls cs
 have ht : EL n coin box ls cs = (decide (ls.length <= 10) && (decide (cs.length <= 6) && (!decide (aS n coin box ls cs = 0) || decide (eL n ls <= 100)))) := rfl
 refine PureF.run YD (by simp) (by simp [aO, dF, Pu, CT, aB, aE]) ?_; conv => whnf
 by_cases h1 : ls.length <= 10
 ·by_cases h2 : cs.length <= 6
  ·rw [decide_eq_true h1, decide_eq_true h2, Bool.true_and, Bool.true_and] at ht
   rw [ht]
   by_cases hf : aS n coin box ls cs = 0
   ·obtain ⟨f1, f2, f3, f4⟩ := jJ hf
    have f3' := f3
    unfold kR at f3'
    simp only [Bool.and_eq_true] at f3'
    have cM := Ao n coin box ls cs (aP.1 f3'.1) (by omega) f3'.2.2.2.1
    rw [hf] at cF ⊢
    by_cases hm : eL n ls <= 100
    ·repeat' ((first | refine Qw ?_ | refine Qf cF ?_ | refine Qf cM ?_ | refine Qd (fun h => ?_) (fun h => ?_)) <;> conv => whnf)
     all_goals exact Fin.b rfl (by simp [hm])
    ·repeat' ((first | refine Qw ?_ | refine Qf cF ?_ | refine Qf cM ?_ | refine Qd (fun h => ?_) (fun h => ?_)) <;> conv => whnf)
     all_goals exact Fin.b rfl (by simp [hm])
   ·repeat' ((first | refine Qw ?_ | refine Qf cF ?_ | refine Qd (fun h => ?_) (fun h => ?_)) <;> conv => whnf)
    all_goals exact Fin.b rfl (by simp [hf])
  ·rw [decide_eq_false h2, Bool.false_and, Bool.and_false] at ht
   rw [ht]
   repeat' ((first | refine Qw ?_ | refine Qf cF ?_ | refine Qd (fun h => ?_) (fun h => ?_)) <;> conv => whnf)
   all_goals exact Fin.b rfl (by first | rfl | (exact decide_eq_false (by omega)))
 ·rw [decide_eq_false h1, Bool.false_and] at ht
  rw [ht]
  repeat' ((first | refine Qw ?_ | refine Qf cF ?_ | refine Qd (fun h => ?_) (fun h => ?_)) <;> conv => whnf)
  all_goals exact Fin.b rfl (by first | rfl | (exact decide_eq_false (by omega)))
theorem WB.fF {t : Bool} {F : Bool -> Prop} (h : t = false) (k : F false) : WB t F := ⟨fun e => (by rw [h] at e; cases e), fun _ => k⟩
theorem WB.fT {t : Bool} {F : Bool -> Prop} (h : t = true) (k : F true) : WB t F := ⟨fun _ => k, fun e => (by rw [h] at e; cases e)⟩
theorem vU (Tr : List Ln) (m : Nat) (c : Int) (hT : Tr.length <= 1000) (hm : m <= Tr.length) : PureF Try.prog p57.ix [.lst 3 (aC aI Tr), .i .i64 (m : Int), .i .i64 c] (.i .i64 (aZ Tr c m)) := by
 have e1 := aD aI Tr
 refine PureF.run XB (by simp) (by simp [aO, dF, Pu, aB]) ?_; conv => whnf
 refine Qg ?_
 refine Rn.loop (fun j : Nat => ⟨(.n (.n (.n (.n .e (some (.i .i64 (aZ Tr c j))) .e) none .e) (some (.i .i64 (m : Int))) .e) (some (.lst 3 (aC aI Tr))) (.n (.n (.n .e (some (.i .i64 (j : Int))) .e) none .e) (some (.i .i64 c)) .e)), .e, .h, none⟩) (fun j => j <= m) (fun j => m - j) 0 ?_ ?_ ?_
 ·(first | (refine X.le.mk ?_ ?_ (Nat.le_refl _) rfl rfl) | skip) <;> (repeat' first | exact T.le_e _ | refine T.le_some ?_ ?_ ?_ | refine T.le_none ?_ ?_ | rfl)
 ·exact Nat.zero_le _
 intro j hj
 have hj : j <= m := hj
 have hs : aZ Tr c (j + 1) = if (Tr.getD j default).c = c then (if (Tr.getD j default).k = 1 then (j : Int) else -1) else aZ Tr c j := rfl
 conv => whnf
 refine Qg ?_
 refine WB.dec (fun h => ?_) (fun h => ?_) <;> conv => whnf
 ·have hlt : j < Tr.length := by omega
  by_cases h1 : (Tr.getD j default).c = c
  ·rw [if_pos h1] at hs
   by_cases h2 : (Tr.getD j default).k = 1
   ·rw [if_pos h2] at hs
    repeat' ((first | refine Qw ?_ | refine Qd (fun h => ?_) (fun h => ?_)) <;> conv => whnf)
    refine Again.to (j + 1) (by omega) (by omega) (Nat.le_refl _) ?_
    rw [hs]
    (refine Shr.of ?_ ?_ rfl rfl) <;> (repeat' first | exact Rel.e | refine Rel.some ?_ ?_ ?_ | refine Rel.none ?_ ?_) <;> (try first | exact Fx | (refine Ro (ShC.same ?_); (repeat' first | exact ShC.nl | refine ShC.cn ?_ ?_) <;> exact Fx))
    all_goals exact Fz.pu (aB _)
   ·rw [if_neg h2] at hs
    repeat' ((first | refine Qw ?_ | refine Qd (fun h => ?_) (fun h => ?_)) <;> conv => whnf)
    refine Again.to (j + 1) (by omega) (by omega) (Nat.le_refl _) ?_
    rw [hs]
    (refine Shr.of ?_ ?_ rfl rfl) <;> (repeat' first | exact Rel.e | refine Rel.some ?_ ?_ ?_ | refine Rel.none ?_ ?_) <;> (try first | exact Fx | (refine Ro (ShC.same ?_); (repeat' first | exact ShC.nl | refine ShC.cn ?_ ?_) <;> exact Fx))
    all_goals exact Fz.pu (aB _)
  ·rw [if_neg h1] at hs
   repeat' ((first | refine Qw ?_ | refine Qd (fun h => ?_) (fun h => ?_)) <;> conv => whnf)
   refine Again.to (j + 1) (by omega) (by omega) (Nat.le_refl _) ?_
   rw [hs]
   (refine Shr.of ?_ ?_ rfl rfl) <;> (repeat' first | exact Rel.e | refine Rel.some ?_ ?_ ?_ | refine Rel.none ?_ ?_) <;> (try first | exact Fx | (refine Ro (ShC.same ?_); (repeat' first | exact ShC.nl | refine ShC.cn ?_ ?_) <;> exact Fx))
   all_goals exact Fz.pu (aB _)
 ·refine Qg ?_
  exact Fin.i rfl (by rw [show m = j by omega])
theorem xC (Tr : List Ln) (m : Nat) (c : Int) (hT : Tr.length <= 1000) (hm : m <= Tr.length) : PureF Try.prog p58.ix [.lst 3 (aC aI Tr), .i .i64 (m : Int), .i .i64 c] (.i .i64 (bC Tr c m)) := by
 have e1 := aD aI Tr
 refine PureF.run Xr (by simp) (by simp [aO, dF, Pu, aB]) ?_; conv => whnf
 refine Qg ?_
 refine Rn.loop (fun j : Nat => ⟨(.n (.n (.n (.n .e (some (.i .i64 (bC Tr c j))) .e) none .e) (some (.i .i64 (m : Int))) .e) (some (.lst 3 (aC aI Tr))) (.n (.n (.n .e (some (.i .i64 (j : Int))) .e) none .e) (some (.i .i64 c)) .e)), .e, .h, none⟩) (fun j => j <= m) (fun j => m - j) 0 ?_ ?_ ?_
 ·(first | (refine X.le.mk ?_ ?_ (Nat.le_refl _) rfl rfl) | skip) <;> (repeat' first | exact T.le_e _ | refine T.le_some ?_ ?_ ?_ | refine T.le_none ?_ ?_ | rfl)
 ·exact Nat.zero_le _
 intro j hj
 have hj : j <= m := hj
 have hs : bC Tr c (j + 1) = if (Tr.getD j default).t = c then (if (Tr.getD j default).k = 1 then (j : Int) else -1) else bC Tr c j := rfl
 conv => whnf
 refine Qg ?_
 refine WB.dec (fun h => ?_) (fun h => ?_) <;> conv => whnf
 ·have hlt : j < Tr.length := by omega
  by_cases h1 : (Tr.getD j default).t = c
  ·rw [if_pos h1] at hs
   by_cases h2 : (Tr.getD j default).k = 1
   ·rw [if_pos h2] at hs
    repeat' ((first | refine Qw ?_ | refine Qd (fun h => ?_) (fun h => ?_)) <;> conv => whnf)
    refine Again.to (j + 1) (by omega) (by omega) (Nat.le_refl _) ?_
    rw [hs]
    (refine Shr.of ?_ ?_ rfl rfl) <;> (repeat' first | exact Rel.e | refine Rel.some ?_ ?_ ?_ | refine Rel.none ?_ ?_) <;> (try first | exact Fx | (refine Ro (ShC.same ?_); (repeat' first | exact ShC.nl | refine ShC.cn ?_ ?_) <;> exact Fx))
    all_goals exact Fz.pu (aB _)
   ·rw [if_neg h2] at hs
    repeat' ((first | refine Qw ?_ | refine Qd (fun h => ?_) (fun h => ?_)) <;> conv => whnf)
    refine Again.to (j + 1) (by omega) (by omega) (Nat.le_refl _) ?_
    rw [hs]
    (refine Shr.of ?_ ?_ rfl rfl) <;> (repeat' first | exact Rel.e | refine Rel.some ?_ ?_ ?_ | refine Rel.none ?_ ?_) <;> (try first | exact Fx | (refine Ro (ShC.same ?_); (repeat' first | exact ShC.nl | refine ShC.cn ?_ ?_) <;> exact Fx))
    all_goals exact Fz.pu (aB _)
  ·rw [if_neg h1] at hs
   repeat' ((first | refine Qw ?_ | refine Qd (fun h => ?_) (fun h => ?_)) <;> conv => whnf)
   refine Again.to (j + 1) (by omega) (by omega) (Nat.le_refl _) ?_
   rw [hs]
   (refine Shr.of ?_ ?_ rfl rfl) <;> (repeat' first | exact Rel.e | refine Rel.some ?_ ?_ ?_ | refine Rel.none ?_ ?_) <;> (try first | exact Fx | (refine Ro (ShC.same ?_); (repeat' first | exact ShC.nl | refine ShC.cn ?_ ?_) <;> exact Fx))
   all_goals exact Fz.pu (aB _)
 ·refine Qg ?_
  exact Fin.i rfl (by rw [show m = j by omega])
theorem sH (Tr : List Ln) (hT : Tr.length <= 1000) : PureF Try.prog p31.ix [.lst 3 (aC aI Tr)] (.b (dW Tr)) := by
 have e1 := aD aI Tr
 refine PureF.run Wo (by simp) (by simp [aO, dF, Pu, aB]) ?_; conv => whnf
 refine Qg ?_
 refine Rn.loop (fun j : Nat => ⟨(.n (.n (.n .e (some (.i .i64 (j : Int))) .e) none .e) (some (.lst 3 (aC aI Tr))) .e), .e, .h, none⟩) (fun j => j <= Tr.length /\ (List.range j).all (eA Tr) = true) (fun j => Tr.length - j) 0 ?_ ?_ ?_
 ·(first | (refine X.le.mk ?_ ?_ (Nat.le_refl _) rfl rfl) | skip) <;> (repeat' first | exact T.le_e _ | refine T.le_some ?_ ?_ ?_ | refine T.le_none ?_ ?_ | rfl)
 ·exact ⟨Nat.zero_le _, rfl⟩
 rintro j ⟨hj, ha⟩
 conv => whnf
 refine Qg ?_
 refine WB.dec (fun h => ?_) (fun h => ?_) <;> conv => whnf
 ·have hlt : j < Tr.length := by omega
  have c1 := vU Tr j (Tr.getD j default).c hT hj
  have c2 := xC Tr j (Tr.getD j default).t hT hj
  have hbad : eA Tr j = false -> dW Tr = false := fun h => uC hlt h
  have hok : eA Tr j = ((decide (0 <= aZ Tr (Tr.getD j default).c j) == decide ((Tr.getD j default).k = 2)) && (decide (0 <= bC Tr (Tr.getD j default).t j) == decide ((Tr.getD j default).k = 2))) := rfl
  repeat' ((first | refine Qw ?_ | refine Qf c1 ?_ | refine Qf c2 ?_) <;> conv => whnf)
  cases hA : (decide (0 <= aZ Tr (Tr.getD j default).c j) == decide ((Tr.getD j default).k = 2)) with
  | false =>
    refine WB.fT rfl ?_; conv => whnf
    repeat' ((first | refine Qw ?_) <;> conv => whnf)
    exact Fin.b rfl (by rw [hbad (by rw [hok, hA]; rfl)])
  | true =>
  refine WB.fF rfl ?_; conv => whnf
  repeat' ((first | refine Qw ?_) <;> conv => whnf)
  cases hB : (decide (0 <= bC Tr (Tr.getD j default).t j) == decide ((Tr.getD j default).k = 2)) with
  | false =>
    refine WB.fT rfl ?_; conv => whnf
    repeat' ((first | refine Qw ?_) <;> conv => whnf)
    exact Fin.b rfl (by rw [hbad (by rw [hok, hA, hB]; rfl)])
  | true =>
  refine WB.fF rfl ?_; conv => whnf
  repeat' ((first | refine Qw ?_) <;> conv => whnf)
  refine Again.to (j + 1) (by omega) ⟨by omega, wV ha (by rw [hok, hA, hB]; rfl)⟩ (Nat.le_refl _) ?_
  (refine Shr.of ?_ ?_ rfl rfl) <;> (repeat' first | exact Rel.e | refine Rel.some ?_ ?_ ?_ | refine Rel.none ?_ ?_) <;> (try first | exact Fx | (refine Ro (ShC.same ?_); (repeat' first | exact ShC.nl | refine ShC.cn ?_ ?_) <;> exact Fx))
  all_goals exact Fz.pu (aB _)
 ·refine Qg ?_
  exact Fin.b rfl (by unfold dW; rw [show Tr.length = j by omega, ha])
theorem Lr (n coin box : Int) (ls : List Ln) (cs : List Ct) (Tr : List Ln) (m : Nat) (hb : 0 <= box /\ box <= 999) (hc : 1 <= coin /\ coin <= 99) (hT : Tr.length <= 1000) (hm : m <= Tr.length) : PureF Try.prog p33.ix [.ag (CT n coin box ls cs), .lst 3 (aC aI Tr), .i .i64 (m : Int)] (.i .i64 (cQ box coin Tr m)) := by
 have e1 := aD aI Tr
 refine PureF.run YO (by simp) (by simp [aO, dF, Pu, CT, aB, aE]) ?_; conv => whnf
 refine Qg ?_
 refine Rn.loop (fun j : Nat => ⟨(.n (.n (.n (.n .e (some (.i .i64 (cQ box coin Tr j))) .e) (some (.pt .h 0 0)) .e) (some (.lst 3 (aC aI Tr))) .e) none (.n (.n (.n .e (some (.i .i64 (j : Int))) .e) none .e) (some (.i .i64 (m : Int))) .e)), (.n .e (some (Al n coin box ls cs)) .e), .o .h, none⟩) (fun j => j <= m) (fun j => m - j) 0 ?_ ?_ ?_
 ·refine X.le.mk ?_ ?_ (Nat.le_refl _) rfl rfl
  ·exact eN
  ·exact Lw
 ·exact Nat.zero_le _
 intro j hj
 have hj : j <= m := hj
 have hs : cQ box coin Tr (j + 1) = if (Tr.getD j default).k = 1 then cQ box coin Tr j + coin else cQ box coin Tr j - coin := rfl
 have hbd := sG (T := Tr) hb hc j
 have hst : ∀ (v : Int) (sl : T D) (ob : T C) (nx : Pos), v = cQ box coin Tr (j + 1) -> T.le ((.n (.n (.n (.n .e (some (.i .i64 v)) .e) (some (.pt .h 0 0)) .e) (some (.lst 3 (aC aI Tr))) .e) none (.n (.n (.n .e (some (.i .i64 ((j + 1 : Nat) : Int))) .e) none .e) (some (.i .i64 (m : Int))) .e)) : T D) sl -> T.le ((.n .e (some (Al n coin box ls cs)) .e) : T C) ob -> Shr ⟨sl, ob, nx, none⟩ ⟨(.n (.n (.n (.n .e (some (.i .i64 (cQ box coin Tr (j + 1)))) .e) (some (.pt .h 0 0)) .e) (some (.lst 3 (aC aI Tr))) .e) none (.n (.n (.n .e (some (.i .i64 ((j + 1 : Nat) : Int))) .e) none .e) (some (.i .i64 (m : Int))) .e)), (.n .e (some (Al n coin box ls cs)) .e), .o .h, none⟩ := fun v sl ob nx hv hs ho => by
  subst hv
  refine Shr.kp2 hs ?_ ho ?_
  ·show TAll (fun _ d => Kp 2 d) _
   repeat' first | exact TAll.e | refine TAll.some ?_ ?_ ?_ | refine TAll.none ?_ ?_
   all_goals simp [Kp, Pu, aB, Pos.nat]
  ·show TAll (fun id c => id.nat < 2 /\ KpC 2 c) _
   exact TAll.some TAll.e ⟨by simp [Pos.nat], AI _ _ _ _ _ _⟩ TAll.e
 conv => whnf
 refine Qg ?_
 refine WB.dec (fun h => ?_) (fun h => ?_) <;> conv => whnf
 ·have hlt : j < Tr.length := by omega
  by_cases h1 : (Tr.getD j default).k = 1
  ·rw [if_pos h1] at hs
   repeat' ((first | refine Qw ?_ | refine Qd (fun h => ?_) (fun h => ?_)) <;> conv => whnf)
   refine Again.to (j + 1) (by omega) (by omega) (Nat.le_refl _) (hst _ _ _ _ hs.symm ?_ ?_)
   ·exact eN
   ·exact Lw
  ·rw [if_neg h1] at hs
   repeat' ((first | refine Qw ?_ | refine Qd (fun h => ?_) (fun h => ?_)) <;> conv => whnf)
   refine Again.to (j + 1) (by omega) (by omega) (Nat.le_refl _) (hst _ _ _ _ hs.symm ?_ ?_)
   ·exact eN
   ·exact Lw
 ·refine Qg ?_
  exact Fin.i rfl (by rw [show m = j by omega])
def sF (n coin box : Int) (ls : List Ln) (cs : List Ct) (Tr : List Ln) : Bool := iY n ls Tr && (dW Tr && wJ box coin cs Tr)
end Go.Ev
end
