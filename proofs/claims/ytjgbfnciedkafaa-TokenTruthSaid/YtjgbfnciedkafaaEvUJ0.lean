import Derived.Test.YtjgbfnciedkafaaEvUJs
import Derived.Test.YtjgbfnciedkafaaEvUJ1
set_option linter.all false
set_option maxHeartbeats 8000000
noncomputable section
namespace Go.Ev
set_option maxRecDepth 100000
structure Ln where
 k : Int
 c : Int
 t : Int
deriving Inhabited
structure Ct where
 a : Int
 lo : Int
 hi : Int
deriving Inhabited
def aI (l : Ln) : List D := [.i .i64 l.k, .i .i64 l.c, .i .i64 l.t]
def cX (c : Ct) : List D := [.i .i64 c.a, .i .i64 c.lo, .i .i64 c.hi]
def CZ (n coin box : Int) (ls : List Ln) (cs : List Ct) : List D := [.i .i64 n, .i .i64 coin, .i .i64 box, .lst 3 (aC aI ls), .lst 3 (aC cX cs)]
theorem aB (ls : List Ln) : dF (aC aI ls) := mP (fun l => by simp [aI, aO, Pu]) ls
theorem aE (cs : List Ct) : dF (aC cX cs) := mP (fun l => by simp [cX, aO, Pu]) cs
theorem Fx {B : Pos -> Prop} {ob : T C} {d e : D} (h : Fz B ob d e := by first | exact Fz.pu trivial | (refine Fz.i ?_; first | rfl | omega) | exact .kpt (Ql rfl) | exact .ksl (Ql rfl) | exact .kmp (Ql rfl) | (refine Fz.pu ?_; simp [Cell.d, Pu, aO, dF, aH, aB, aE]; done) | (refine Fz.pu ?_; simp only [Cell.d]; assumption)) : Fz B ob d e := h
theorem Rw {sl sl' : T D} {B : Pos -> Prop} {ob : T C} {f : Pos -> Pos} (h : Rel (RS B ob) f sl sl' := by (repeat' first | exact Rel.e | refine Rel.some ?_ ?_ ?_ | refine Rel.none ?_ ?_ | refine Rel.ee ?_ ?_) <;> first | exact Fy | exact Fz.pu (aH _) | exact Fz.pu (aB _) | exact Fz.pu (aE _)) : Rel (RS B ob) f sl sl' := h
theorem dK (ls : List Ln) : ∀ r ∈ aC aI ls, r.length = 3 := fun r hr => by
 obtain ⟨l, _, rfl⟩ := List.mem_map.1 hr
 rfl
theorem JJ (cs : List Ct) : ∀ r ∈ aC cX cs, r.length = 3 := fun r hr => by
 obtain ⟨l, _, rfl⟩ := List.mem_map.1 hr
 rfl
def pW (l x : Ln) : Bool := (decide (l.k = 0) || decide (l.k = x.k)) && ((decide (l.c < 0) || decide (l.c = x.c)) && (decide (l.t < 0) || decide (l.t = x.t)))
def gE (n a b : Int) : Bool := decide (a <= n /\ n <= b)
theorem aP {n a b : Int} : gE n a b = true ↔ a <= n /\ n <= b := decide_eq_true_iff
def cQ (n : Int) (l : Ln) : Bool := gE l.k 0 2 && (gE l.c (-1) (n - 1) && gE l.t (-1) (n - 1))
def qK (m : Int) (c : Ct) : Bool := gE c.a 0 m && (decide (0 <= c.lo) && (decide (c.lo <= c.hi) && decide (c.hi <= 2000)))
def AY (l : Ln) : Int := if l.k = 0 then 2 else 1
def yR (n : Int) (l : Ln) : Int := if l.c = -1 then n else 1
def zR (n : Int) (l : Ln) : Int := if l.t = -1 then n else 1
def kX (n : Int) (l : Ln) : Int := AY l * yR n l * zR n l
theorem nI {n : Int} (h1 : 1 <= n) (h4 : n <= 4) (l : Ln) : 1 <= kX n l /\ kX n l <= 32 := by
 unfold kX AY yR zR
 have : n = 1 \/ n = 2 \/ n = 3 \/ n = 4 := by omega
 rcases this with rfl | rfl | rfl | rfl <;> split <;> split <;> split <;> omega
def fB (n : Int) (ls : List Ln) : Int := ls.foldl (fun m l => m * kX n l) 1
def eL (n : Int) (ls : List Ln) : Int := ls.foldl (fun m l => min 5000 (m * kX n l)) 1
theorem vO {n : Int} (h1 : 1 <= n) (h4 : n <= 4) : ∀ (ls : List Ln) (p q : Int), 1 <= p -> q = min 5000 p -> ls.foldl (fun m l => min 5000 (m * kX n l)) q = min 5000 (ls.foldl (fun m l => m * kX n l) p) /\ 1 <= ls.foldl (fun m l => m * kX n l) p
 | [], p, q, hp, hq => ⟨hq, hp⟩
 | l :: ls, p, q, hp, hq => by
   obtain ⟨b1, b2⟩ := nI h1 h4 l
   have h0 : 1 <= p * kX n l := by
    have := Int.mul_le_mul hp b1 (by omega) (by omega)
    omega
   refine vO h1 h4 ls (p * kX n l) (min 5000 (q * kX n l)) h0 ?_
   by_cases h : p <= 5000
   ·rw [hq, show min 5000 p = p by omega]
   ·have e : q = 5000 := by omega
    have h2 : (5000 : Int) * 1 <= 5000 * kX n l := Int.mul_le_mul (Int.le_refl _) b1 (by omega) (by omega)
    have h3 : (5000 : Int) * 1 <= p * kX n l := Int.mul_le_mul (by omega) b1 (by omega) (by omega)
    rw [e]
    omega
theorem fN {n : Int} (h1 : 1 <= n) (h4 : n <= 4) (ls : List Ln) : eL n ls = min 5000 (fB n ls) /\ 1 <= fB n ls := vO h1 h4 ls 1 1 (by omega) (by omega)
theorem BC {n : Int} (h1 : 1 <= n) (h4 : n <= 4) : ∀ (ls : List Ln) (p b : Int), 1 <= p -> p <= b -> ls.foldl (fun m l => m * kX n l) p <= b * 32 ^ ls.length
 | [], p, b, _, h => by simpa using h
 | l :: ls, p, b, hp, h => by
   obtain ⟨b1, b2⟩ := nI h1 h4 l
   have h0 : 1 <= p * kX n l := by
    have := Int.mul_le_mul hp b1 (by omega) (by omega)
    omega
   have h2 : p * kX n l <= b * 32 := Int.mul_le_mul h b2 (by omega) (by omega)
   have := BC h1 h4 ls (p * kX n l) (b * 32) h0 h2
   rw [List.length_cons, Int.pow_succ, show b * (32 ^ ls.length * 32) = b * 32 * 32 ^ ls.length by rw [Int.mul_assoc, Int.mul_comm 32]]
   exact this
def kT (n coin box : Int) (ls : List Ln) (cs : List Ct) : Bool := gE n 1 4 && (gE coin 1 99 && (gE box 0 999 && (ls.all (cQ n) && cs.all (qK ls.length))))
def aS (n coin box : Int) (ls : List Ln) (cs : List Ct) : Int :=
 if 8 < ls.length \/ 4 < cs.length then 3 else if kT n coin box ls cs = true then (if 4096 < eL n ls then 3 else 0) else 1
theorem jL {n coin box : Int} {ls : List Ln} {cs : List Ct} (h : aS n coin box ls cs = 0) : ls.length <= 8 /\ cs.length <= 4 /\ kT n coin box ls cs = true /\ eL n ls <= 4096 := by
 unfold aS at h
 split at h
 ·cases h
 ·split at h
  ·split at h
   ·cases h
   ·exact ⟨by omega, by omega, by assumption, by omega⟩
  ·cases h
def aZ (T : List Ln) (c : Int) : Nat -> Int
 | 0 => -1
 | i + 1 => if (T.getD i default).c = c then (if (T.getD i default).k = 1 then (i : Int) else -1) else aZ T c i
def bC (T : List Ln) (t : Int) : Nat -> Int
 | 0 => -1
 | i + 1 => if (T.getD i default).t = t then (if (T.getD i default).k = 1 then (i : Int) else -1) else bC T t i
theorem kH (T : List Ln) (c : Int) : ∀ i, -1 <= aZ T c i /\ aZ T c i < i
 | 0 => by show -1 <= (-1 : Int) /\ (-1 : Int) < 0; omega
 | i + 1 => by
   have := kH T c i
   unfold aZ
   split <;> try split
   all_goals omega
theorem kI (T : List Ln) (c : Int) : ∀ i, -1 <= bC T c i /\ bC T c i < i
 | 0 => by show -1 <= (-1 : Int) /\ (-1 : Int) < 0; omega
 | i + 1 => by
   have := kI T c i
   unfold bC
   split <;> try split
   all_goals omega
def eE (T : List Ln) (i : Nat) : Bool := (decide (0 <= aZ T (T.getD i default).c i) == decide ((T.getD i default).k = 2)) && (decide (0 <= bC T (T.getD i default).t i) == decide ((T.getD i default).k = 2))
def dY (T : List Ln) : Bool := (List.range T.length).all (eE T)
def cL (box coin : Int) (T : List Ln) : Nat -> Int
 | 0 => box
 | i + 1 => if (T.getD i default).k = 1 then cL box coin T i + coin else cL box coin T i - coin
def gL (T : List Ln) : Nat -> Int
 | 0 => 0
 | i + 1 => gL T i + if (T.getD i default).k = 2 /\ aZ T (T.getD i default).c i ≠ bC T (T.getD i default).t i then 1 else 0
theorem sF {box coin : Int} {T : List Ln} (h1 : 0 <= box /\ box <= 999) (h2 : 1 <= coin /\ coin <= 99) : ∀ i : Nat, -99 * (i : Int) <= cL box coin T i /\ cL box coin T i <= 999 + 99 * (i : Int)
 | 0 => by show -99 * 0 <= box /\ box <= 999 + 99 * 0; omega
 | i + 1 => by
   have := sF (T := T) h1 h2 i
   unfold cL
   split <;> omega
theorem Bg {T : List Ln} : ∀ i : Nat, 0 <= gL T i /\ gL T i <= i
 | 0 => by show (0 : Int) <= 0 /\ (0 : Int) <= 0; omega
 | i + 1 => by
   have := Bg (T := T) i
   unfold gL
   split <;> omega
def Na (n : Int) (l x : Ln) : Bool := gE x.k 1 2 && (gE x.c 0 (n - 1) && (gE x.t 0 (n - 1) && pW l x))
def iV (n : Int) (ls T : List Ln) : Bool := decide (T.length = ls.length) && (List.range T.length).all fun i => Na n (ls.getD i default) (T.getD i default)
def xG (box coin : Int) (cs : List Ct) (T : List Ln) : Bool := cs.all fun c => gE (cL box coin T c.a.toNat) c.lo c.hi
structure Mo where
 n : Int
 h : Nat -> Int
 box : Int
 mix : Int
 last : Ln
instance : Inhabited Mo := ⟨⟨0, fun _ => 0, 0, 0, ⟨0, 0, 0⟩⟩⟩
def dH (m : Mo) : List D := [.i .i64 m.n, .i .i64 (m.h 0), .i .i64 (m.h 1), .i .i64 (m.h 2), .i .i64 (m.h 3), .i .i64 (m.h 4), .i .i64 (m.h 5), .i .i64 (m.h 6), .i .i64 (m.h 7), .i .i64 m.box, .i .i64 m.mix, .i .i64 m.last.k, .i .i64 m.last.c, .i .i64 m.last.t]
def pJ (h : Nat -> Int) (q : Nat) (v : Int) (i : Nat) : Int := if i = q then v else h i
def lY (coin : Int) (m : Mo) (l : Ln) : Mo × Bool :=
 if l.k = 1 /\ m.h l.c.toNat = 0 /\ m.h (4 + l.t.toNat) = 0 then (⟨m.n + 1, pJ (pJ m.h l.c.toNat (m.n + 1)) (4 + l.t.toNat) (m.n + 1), m.box + coin, m.mix, l⟩, true)
 else if l.k = 2 /\ m.h l.c.toNat ≠ 0 /\ m.h (4 + l.t.toNat) ≠ 0 then (⟨m.n + 1, pJ (pJ m.h l.c.toNat 0) (4 + l.t.toNat) 0, m.box - coin, if m.h l.c.toNat ≠ m.h (4 + l.t.toNat) then m.mix + 1 else m.mix, l⟩, true)
 else (⟨m.n + 1, m.h, m.box, m.mix, l⟩, false)
def fH (box coin : Int) (T : List Ln) (i : Nat) : Mo := ⟨(i : Int), fun q => if q < 4 then aZ T (q : Int) i + 1 else bC T ((q - 4 : Nat) : Int) i + 1, cL box coin T i, gL T i, match i with
 | 0 => ⟨0, 0, 0⟩
 | i + 1 => T.getD i default⟩
theorem Fh {box coin : Int} {T : List Ln} {i : Nat} (hk : (T.getD i default).k = 1 \/ (T.getD i default).k = 2) (hc : 0 <= (T.getD i default).c /\ (T.getD i default).c <= 3) (ht : 0 <= (T.getD i default).t /\ (T.getD i default).t <= 3) (hp : eE T i = true) : lY coin (fH box coin T i) (T.getD i default) = (fH box coin T (i + 1), true) := by
 unfold eE at hp
 rw [Bool.and_eq_true, beq_iff_eq, beq_iff_eq] at hp
 obtain ⟨p1, p2⟩ := hp
 have hcN : (((T.getD i default).c.toNat : Nat) : Int) = (T.getD i default).c := by omega
 have htN : (((T.getD i default).t.toNat : Nat) : Int) = (T.getD i default).t := by omega
 have e1 : (fH box coin T i).h (T.getD i default).c.toNat = aZ T (T.getD i default).c i + 1 := by
  show (if (T.getD i default).c.toNat < 4 then _ else _) = _
  rw [if_pos (by omega), hcN]
 have e2 : (fH box coin T i).h (4 + (T.getD i default).t.toNat) = bC T (T.getD i default).t i + 1 := by
  show (if 4 + (T.getD i default).t.toNat < 4 then _ else _) = _
  rw [if_neg (by omega), show 4 + (T.getD i default).t.toNat - 4 = (T.getD i default).t.toNat by omega, htN]
 have b1 := kH T (T.getD i default).c i
 have b2 := kI T (T.getD i default).t i
 have hext : ∀ v : Int, (∀ c : Int, aZ T c (i + 1) = if (T.getD i default).c = c then v - 1 else aZ T c i) -> (∀ c : Int, bC T c (i + 1) = if (T.getD i default).t = c then v - 1 else bC T c i) -> pJ (pJ (fH box coin T i).h (T.getD i default).c.toNat v) (4 + (T.getD i default).t.toNat) v = (fH box coin T (i + 1)).h := fun v h1 h2 => by
  funext q
  show (if q = 4 + (T.getD i default).t.toNat then v else if q = (T.getD i default).c.toNat then v else if q < 4 then aZ T (q : Int) i + 1 else bC T ((q - 4 : Nat) : Int) i + 1) = if q < 4 then aZ T (q : Int) (i + 1) + 1 else bC T ((q - 4 : Nat) : Int) (i + 1) + 1
  rw [h1, h2]
  by_cases hq : q < 4
  ·rw [if_neg (show ¬ q = 4 + (T.getD i default).t.toNat by omega), if_pos hq, if_pos hq]
   by_cases hqc : q = (T.getD i default).c.toNat
   ·rw [if_pos hqc, if_pos (by omega)]; omega
   ·rw [if_neg hqc, if_neg (by omega)]
  ·rw [if_neg hq, if_neg hq, if_neg (show ¬ q = (T.getD i default).c.toNat by omega)]
   by_cases hqt : q = 4 + (T.getD i default).t.toNat
   ·rw [if_pos hqt, if_pos (by omega)]; omega
   ·rw [if_neg hqt, if_neg (by omega)]
 unfold lY
 rw [e1, e2]
 rcases hk with hk | hk
 ·have q1 : ¬ 0 <= aZ T (T.getD i default).c i := by
   intro h; rw [decide_eq_true h, hk] at p1; cases p1
  have q2 : ¬ 0 <= bC T (T.getD i default).t i := by
   intro h; rw [decide_eq_true h, hk] at p2; cases p2
  rw [if_pos ⟨hk, by omega, by omega⟩]
  have hh := hext ((i : Int) + 1) (fun c => by
   show (if _ then (if _ then _ else _) else _) = _
   rw [hk, if_pos rfl]
   congr 1; omega) (fun c => by
   show (if _ then (if _ then _ else _) else _) = _
   rw [hk, if_pos rfl]
   congr 1; omega)
  show ((⟨(i : Int) + 1, pJ (pJ (fH box coin T i).h _ ((i : Int) + 1)) _ ((i : Int) + 1), cL box coin T i + coin, gL T i, T.getD i default⟩, true) : Mo × Bool) = _
  rw [hh]
  have m1 : cL box coin T (i + 1) = cL box coin T i + coin := by
   show (if _ then _ else _) = _
   rw [if_pos hk]
  have m2 : gL T (i + 1) = gL T i := by
   show gL T i + (if _ then _ else _) = _
   rw [if_neg (by rw [hk]; intro h; omega)]; omega
  unfold fH
  simp only [m1, m2]
  rfl
 ·have q1 : 0 <= aZ T (T.getD i default).c i := by
   refine Classical.byContradiction fun h => ?_
   rw [decide_eq_false h, hk] at p1; cases p1
  have q2 : 0 <= bC T (T.getD i default).t i := by
   refine Classical.byContradiction fun h => ?_
   rw [decide_eq_false h, hk] at p2; cases p2
  rw [if_neg (fun h => by omega), if_pos ⟨hk, by omega, by omega⟩]
  have hh := hext 0 (fun c => by
   show (if _ then (if _ then _ else _) else _) = _
   by_cases hcc : (T.getD i default).c = c
   ·rw [if_pos hcc, if_neg (by rw [hk]; decide), if_pos hcc]; rfl
   ·rw [if_neg hcc, if_neg hcc]) (fun c => by
   show (if _ then (if _ then _ else _) else _) = _
   by_cases hcc : (T.getD i default).t = c
   ·rw [if_pos hcc, if_neg (by rw [hk]; decide), if_pos hcc]; rfl
   ·rw [if_neg hcc, if_neg hcc])
  show ((⟨(i : Int) + 1, pJ (pJ (fH box coin T i).h _ 0) _ 0, cL box coin T i - coin, (if aZ T _ i + 1 ≠ bC T _ i + 1 then gL T i + 1 else gL T i), T.getD i default⟩, true) : Mo × Bool) = _
  rw [hh]
  have m1 : cL box coin T (i + 1) = cL box coin T i - coin := by
   show (if _ then _ else _) = _
   rw [if_neg (by rw [hk]; decide)]
  have m2 : gL T (i + 1) = if aZ T (T.getD i default).c i + 1 ≠ bC T (T.getD i default).t i + 1 then gL T i + 1 else gL T i := by
   show gL T i + (if _ then _ else _) = _
   by_cases h : aZ T (T.getD i default).c i = bC T (T.getD i default).t i
   ·rw [if_neg (fun h' => h'.2 h), if_neg (fun h' => h' (by omega))]; omega
   ·rw [if_pos ⟨hk, h⟩, if_pos (by omega)]
  unfold fH
  simp only [m1, m2]
  rfl
theorem Hv {box coin : Int} {T : List Ln} {i : Nat} (hk : (T.getD i default).k = 1 \/ (T.getD i default).k = 2) (hc : 0 <= (T.getD i default).c /\ (T.getD i default).c <= 3) (ht : 0 <= (T.getD i default).t /\ (T.getD i default).t <= 3) (hp : eE T i = false) : (lY coin (fH box coin T i) (T.getD i default)).2 = false := by
 have hcN : (((T.getD i default).c.toNat : Nat) : Int) = (T.getD i default).c := by omega
 have htN : (((T.getD i default).t.toNat : Nat) : Int) = (T.getD i default).t := by omega
 have e1 : (fH box coin T i).h (T.getD i default).c.toNat = aZ T (T.getD i default).c i + 1 := by
  show (if (T.getD i default).c.toNat < 4 then _ else _) = _
  rw [if_pos (by omega), hcN]
 have e2 : (fH box coin T i).h (4 + (T.getD i default).t.toNat) = bC T (T.getD i default).t i + 1 := by
  show (if 4 + (T.getD i default).t.toNat < 4 then _ else _) = _
  rw [if_neg (by omega), show 4 + (T.getD i default).t.toNat - 4 = (T.getD i default).t.toNat by omega, htN]
 have b1 := kH T (T.getD i default).c i
 have b2 := kI T (T.getD i default).t i
 unfold lY
 rw [e1, e2]
 have hn : ¬ (decide (0 <= aZ T (T.getD i default).c i) = decide ((T.getD i default).k = 2) /\ decide (0 <= bC T (T.getD i default).t i) = decide ((T.getD i default).k = 2)) := fun h => by
  have : eE T i = true := by
   unfold eE
   rw [h.1, h.2]; simp
  rw [this] at hp; cases hp
 split
 ·rename_i h
  exact absurd ⟨by rw [decide_eq_false (by omega), decide_eq_false (by omega)], by rw [decide_eq_false (by omega), decide_eq_false (by omega)]⟩ hn
 ·split
  ·rename_i h
   exact absurd ⟨by rw [decide_eq_true (by omega), decide_eq_true (by omega)], by rw [decide_eq_true (by omega), decide_eq_true (by omega)]⟩ hn
  ·rfl
def AG (n coin box : Int) (ls : List Ln) (cs : List Ct) : C := .cells false [.o (.i .i64 n) 0, .o (.i .i64 coin) 0, .o (.i .i64 box) 0, .o (.lst 3 (aC aI ls)) 0, .o (.lst 3 (aC cX cs)) 0] 1
theorem AA (n coin box : Int) (ls : List Ln) (cs : List Ct) (m : Nat) : KpC m (AG n coin box ls cs) := by
 refine KpL.all ?_
 simp [KpL, Kp, Cell.d, Pu, aB, aE]
def MH (l : Ln) : C := .cells false [.o (.i .i64 l.k) 0, .o (.i .i64 l.c) 0, .o (.i .i64 l.t) 0] 1
theorem On (l : Ln) (m : Nat) : KpC m (MH l) := by
 refine KpL.all ?_
 simp [KpL, Kp, Cell.d, Pu]
theorem nL (n a b : Int) : PureF Try.prog p36.ix [.i .i64 n, .i .i64 a, .i .i64 b] (.b (gE n a b)) := by
 refine PureF.run WM (by simp) (by simp [aO, dF, Pu]) ?_; conv => whnf
 repeat' ((first | refine Qz ?_ | with_reducible refine WB.dec (fun h => ?_) (fun h => ?_) | with_reducible refine WB.ndec (fun h => ?_) (fun h => ?_) | refine WB.mk (fun h => ?_) (fun h => ?_)) <;> conv => whnf)
 all_goals
  refine Fin.b rfl ?_
  unfold gE
  first
   | exact (decide_eq_false (by omega)).symm
   | (congr 1; apply propext; constructor <;> intro hh <;> omega)
theorem HD (l x : Ln) : PureF Try.prog p84.ix [.ag (aI l), .ag (aI x)] (.b (pW l x)) := by
 obtain ⟨a, b, c⟩ := l
 obtain ⟨a', b', c'⟩ := x
 refine PureF.run XN (by simp) (by simp [aO, dF, Pu, aI]) ?_; conv => whnf
 repeat' ((first | refine Qz ?_ | with_reducible refine WB.dec (fun h => ?_) (fun h => ?_) | with_reducible refine WB.ndec (fun h => ?_) (fun h => ?_) | refine WB.mk (fun h => ?_) (fun h => ?_)) <;> conv => whnf)
 all_goals exact Fin.b rfl (by unfold pW; simp_all <;> omega)
def sL (n : Int) (l : Ln) (i j : Int) : Nat -> List Ln
 | 0 => []
 | k + 1 => sL n l i j k ++ bif pW l ⟨i, j, (k : Int)⟩ then [⟨i, j, (k : Int)⟩] else []
def hH (n : Int) (l : Ln) (i : Int) : Nat -> List Ln
 | 0 => []
 | j + 1 => hH n l i j ++ sL n l i (j : Int) n.toNat
def CF (n : Int) (l : Ln) : Nat -> List Ln
 | 0 => []
 | i + 1 => CF n l i ++ hH n l ((i : Int) + 1) n.toNat
def pL (n : Int) (l : Ln) : List Ln := CF n l 2
theorem AR (n : Int) (l : Ln) (i j : Int) : ∀ k, (sL n l i j k).length <= k
 | 0 => Nat.le_refl _
 | k + 1 => by
   have := AR n l i j k
   unfold sL
   rw [List.length_append]
   cases pW l ⟨i, j, (k : Int)⟩ <;> simp <;> omega
theorem Ag (n : Int) (l : Ln) (i : Int) (h4 : n.toNat <= 4) : ∀ j, (hH n l i j).length <= j * 4
 | 0 => Nat.le_refl _
 | j + 1 => by
   have := Ag n l i h4 j
   have := AR n l i (j : Int) n.toNat
   unfold hH
   rw [List.length_append]
   omega
theorem EE (n : Int) (l : Ln) (h4 : n.toNat <= 4) : ∀ i, (CF n l i).length <= i * 16
 | 0 => Nat.le_refl _
 | i + 1 => by
   have := EE n l h4 i
   have := Ag n l ((i : Int) + 1) h4 n.toNat
   unfold CF
   rw [List.length_append]
   omega
theorem Ku : ∀ n ∈ [(1 : Int), 2, 3, 4], ∀ k ∈ [(0 : Int), 1, 2], ∀ c ∈ [(-1 : Int), 0, 1, 2, 3], ∀ t ∈ [(-1 : Int), 0, 1, 2, 3], (c < n && t < n) = true -> decide (((pL n ⟨k, c, t⟩).length : Int) = kX n ⟨k, c, t⟩) = true := by decide +kernel
theorem CC {n : Int} {l : Ln} (hn : 1 <= n /\ n <= 4) (hl : cQ n l = true) : ((pL n l).length : Int) = kX n l := by
 obtain ⟨k, c, t⟩ := l
 unfold cQ at hl
 rw [Bool.and_eq_true, Bool.and_eq_true, aP, aP, aP] at hl
 obtain ⟨h1, h2, h3⟩ := hl
 have h1 : 0 <= k /\ k <= 2 := h1
 have h2 : -1 <= c /\ c <= n - 1 := h2
 have h3 : -1 <= t /\ t <= n - 1 := h3
 have mn : n ∈ [(1 : Int), 2, 3, 4] := by
  have : n = 1 \/ n = 2 \/ n = 3 \/ n = 4 := by omega
  rcases this with rfl | rfl | rfl | rfl <;> simp
 have mk : k ∈ [(0 : Int), 1, 2] := by
  have : k = 0 \/ k = 1 \/ k = 2 := by omega
  rcases this with rfl | rfl | rfl <;> simp
 have mc : c ∈ [(-1 : Int), 0, 1, 2, 3] := by
  have : c = -1 \/ c = 0 \/ c = 1 \/ c = 2 \/ c = 3 := by omega
  rcases this with rfl | rfl | rfl | rfl | rfl <;> simp
 have mt : t ∈ [(-1 : Int), 0, 1, 2, 3] := by
  have : t = -1 \/ t = 0 \/ t = 1 \/ t = 2 \/ t = 3 := by omega
  rcases this with rfl | rfl | rfl | rfl | rfl <;> simp
 exact of_decide_eq_true (Ku n mn k mk c mc t mt (by rw [Bool.and_eq_true, decide_eq_true_iff, decide_eq_true_iff]; omega))
def Cp (A : List Ln) : List D := (aC aI A).flatten
theorem EQ (A : List Ln) : (Cp A).length = A.length * 3 := by
 induction A with
 | nil => rfl
 | cons a A ih => unfold Cp aC at *; rw [List.map_cons, List.flatten_cons, List.length_append, ih, List.length_cons]; simp [aI]; omega
theorem Iw (A : List Ln) : aO (Cp A) := aF.2 fun d hd => by
 obtain ⟨r, hr, hd⟩ := List.mem_flatten.1 hd
 exact aF.1 (rL.1 (aB A) r hr) d hd
theorem Cs (A : List Ln) (x : Ln) : Cp (A ++ [x]) = Cp A ++ aI x := by simp [Cp, aC]
theorem Iz (n st m : Nat) (A : List Ln) : KpC n (.cells false ((Cp A).map fun d => Cell.o d st) m) := fun c hc => by
 obtain ⟨d, hd, rfl⟩ := List.mem_map.1 hc
 obtain ⟨r, hr, hd⟩ := List.mem_flatten.1 hd
 obtain ⟨x, _, rfl⟩ := List.mem_map.1 hr
 simp only [aI, List.mem_cons, List.not_mem_nil, or_false] at hd
 rcases hd with rfl | rfl | rfl <;> simp [Kp, Cell.d, Pu]
def Lf : List Ln -> D
 | [] => .ns
 | _ :: s => .sl (.o (.o .h)) 0 (s.length + 1) s.length 3
def Xy : List Ln -> Option C
 | [] => none
 | a :: s => some (.cells false ((Cp (a :: s)).map fun d => Cell.o d s.length) (s.length + 1))
def rG : List Ln -> Pos
 | [] => .i .h
 | _ :: _ => .i (.o .h)
def Lk (B L : C) (A : List Ln) : T C := .n (.n (.n .e (Xy A) .e) (some L) .e) (some B) .e
theorem DO (A A' : List Ln) : (rG A).nat <= (rG (A ++ A')).nat := by
 cases A with
 | nil => cases A' <;> simp [rG, Pos.nat]
 | cons a A => simp [rG]
theorem Ac (A : List Ln) : 3 <= (rG A).nat := by cases A <;> simp [rG, Pos.nat]
theorem Dc (A : List Ln) : Kp (rG A).nat (Lf A) := by
 cases A <;> simp [Lf, rG, Kp, Pos.nat, Pu]
theorem Dx {B L : C} (A : List Ln) (hB : ∀ m, KpC m B) (hL : ∀ m, KpC m L) : KpO (rG A).nat (Lk B L A) := by
 cases A with
 | nil =>
   show TAll (fun id c => id.nat < 3 /\ KpC 3 c) _
   unfold Lk Xy
   exact TAll.some (TAll.some (TAll.none TAll.e TAll.e) ⟨by simp [Pos.nat], hL _⟩ TAll.e) ⟨by simp [Pos.nat], hB _⟩ TAll.e
 | cons a s =>
   show TAll (fun id c => id.nat < 5 /\ KpC 5 c) _
   unfold Lk Xy
   exact TAll.some (TAll.some (TAll.some TAll.e ⟨by simp [Pos.nat], Iz _ _ _ _⟩ TAll.e) ⟨by simp [Pos.nat], hL _⟩ TAll.e) ⟨by simp [Pos.nat], hB _⟩ TAll.e
theorem Dt (n coin box : Int) (ls : List Ln) (cs : List Ct) (l : Ln) (hn : 0 <= n /\ n <= 4) : PureF Try.prog p93.ix [.ag (CZ n coin box ls cs), .ag (aI l)] (.lst 3 (aC aI (pL n l))) := by
 have hn0 : ((n.toNat : Nat) : Int) = n := by omega
 have h4 : n.toNat <= 4 := by omega
 obtain ⟨N, hN⟩ : ∃ N : Nat, N = n.toNat := ⟨_, rfl⟩
 have kpB := AA n coin box ls cs
 have kpL := On l
 refine PureF.run Yp (by simp) (by simp [aO, dF, Pu, CZ, aI, aB, aE]) ?_; conv => whnf
 refine Qg ?_
 refine Rn.loop (fun i : Nat => ⟨(.n (.n (.n .e (some (.pt (.o .h) 0 0)) .e) none (.n .e (some (Lf (CF n l i))) .e)) none (.n .e (some (.pt .h 0 0)) (.n .e (some (.i .i64 ((i : Int) + 1))) .e))), Lk (AG n coin box ls cs) (MH l) (CF n l i), rG (CF n l i), none⟩) (fun i => i <= 2) (fun i => 2 - i) 0 ?_ ?_ ?_
 ·refine X.le.mk ?_ ?_ (Nat.le_refl _) rfl rfl
  ·exact eR
  ·exact Lw
 ·omega
 intro i hi
 have hi : i <= 2 := hi
 have hiA := EE n l h4 i
 have Wj : i = 2 -> CF n l i = pL n l := fun e => by rw [e]; rfl
 have hiN : CF n l (i + 1) = CF n l i ++ hH n l ((i : Int) + 1) n.toNat := rfl
 generalize hA : CF n l i = A at *
 conv => whnf
 refine Qg ?_
 refine WB.dec (fun h => ?_) (fun h => ?_) <;> conv => whnf
 ·have hi2 : i < 2 := by omega
  refine Qg ?_
  refine Rn.loop (fun j : Nat => ⟨(.n (.n (.n (.n .e (some (.i .i64 (j : Int))) .e) (some (.pt (.o .h) 0 0)) .e) none (.n .e (some (Lf (A ++ hH n l ((i : Int) + 1) j))) .e)) none (.n .e (some (.pt .h 0 0)) (.n .e (some (.i .i64 ((i : Int) + 1))) .e))), Lk (AG n coin box ls cs) (MH l) (A ++ hH n l ((i : Int) + 1) j), rG (A ++ hH n l ((i : Int) + 1) j), none⟩) (fun j => j <= n.toNat) (fun j => n.toNat - j) 0 ?_ ?_ ?_
  ·have e0 : A ++ hH n l ((i : Int) + 1) 0 = A := List.append_nil A
   simp only [e0]
   refine X.le.mk ?_ (T.le_refl _) (Nat.le_refl _) rfl rfl
   show T.le ((.n (.n (.n (.n .e (some (.i .i64 0)) .e) (some (.pt (.o .h) 0 0)) .e) none (.n .e (some (Lf A)) .e)) none (.n .e (some (.pt .h 0 0)) (.n .e (some (.i .i64 ((i : Int) + 1))) .e))) : T D) _
   exact eR
  ·exact Nat.zero_le _
  intro j hj
  have hj : j <= n.toNat := hj
  have hjA := Ag n l ((i : Int) + 1) h4 j
  have hjE : j = n.toNat -> A ++ hH n l ((i : Int) + 1) j = CF n l (i + 1) := fun e => by rw [hiN, e]
  have hjN : A ++ hH n l ((i : Int) + 1) (j + 1) = (A ++ hH n l ((i : Int) + 1) j) ++ sL n l ((i : Int) + 1) (j : Int) n.toNat := by
   rw [List.append_assoc]; rfl
  have hBl : (A ++ hH n l ((i : Int) + 1) j).length <= 1000 := by rw [List.length_append]; omega
  have hupj := DO A (hH n l ((i : Int) + 1) j)
  generalize hB : A ++ hH n l ((i : Int) + 1) j = B at *
  conv => whnf
  refine Qg ?_
  refine WB.dec (fun h => ?_) (fun h => ?_) <;> conv => whnf
  ·have hjn : j < n.toNat := by omega
   refine Qg ?_
   refine Rn.loop (fun k : Nat => ⟨(.n (.n (.n (.n .e (some (.i .i64 (j : Int))) .e) (some (.pt (.o .h) 0 0)) .e) none (.n .e (some (Lf (B ++ sL n l ((i : Int) + 1) (j : Int) k))) .e)) none (.n (.n (.n .e (some (.i .i64 (k : Int))) .e) none .e) (some (.pt .h 0 0)) (.n .e (some (.i .i64 ((i : Int) + 1))) .e))), Lk (AG n coin box ls cs) (MH l) (B ++ sL n l ((i : Int) + 1) (j : Int) k), rG (B ++ sL n l ((i : Int) + 1) (j : Int) k), none⟩) (fun k => k <= n.toNat) (fun k => n.toNat - k) 0 ?_ ?_ ?_
   ·have e0 : B ++ sL n l ((i : Int) + 1) (j : Int) 0 = B := List.append_nil B
    simp only [e0]
    refine X.le.mk ?_ (T.le_refl _) (Nat.le_refl _) rfl rfl
    show T.le ((.n (.n (.n (.n .e (some (.i .i64 (j : Int))) .e) (some (.pt (.o .h) 0 0)) .e) none (.n .e (some (Lf B)) .e)) none (.n (.n (.n .e (some (.i .i64 0)) .e) none .e) (some (.pt .h 0 0)) (.n .e (some (.i .i64 ((i : Int) + 1))) .e))) : T D) _
    exact eR
   ·exact Nat.zero_le _
   intro k hk
   have hk : k <= n.toNat := hk
   have hkA := AR n l ((i : Int) + 1) (j : Int) k
   have hkE : k = n.toNat -> B ++ sL n l ((i : Int) + 1) (j : Int) k = A ++ hH n l ((i : Int) + 1) (j + 1) := fun e => by rw [hjN, e]
   have hkN : B ++ sL n l ((i : Int) + 1) (j : Int) (k + 1) = (B ++ sL n l ((i : Int) + 1) (j : Int) k) ++ bif pW l ⟨(i : Int) + 1, (j : Int), (k : Int)⟩ then [⟨(i : Int) + 1, (j : Int), (k : Int)⟩] else [] := by
    rw [List.append_assoc]; rfl
   have hCl : (B ++ sL n l ((i : Int) + 1) (j : Int) k).length <= 1004 := by rw [List.length_append]; omega
   have hupk := DO B (sL n l ((i : Int) + 1) (j : Int) k)
   generalize hC : B ++ sL n l ((i : Int) + 1) (j : Int) k = E at *
   have hupE := DO E
   have hst : ∀ (E' : List Ln), B ++ sL n l ((i : Int) + 1) (j : Int) (k + 1) = E' -> (⟨(.n (.n (.n (.n .e (some (.i .i64 (j : Int))) .e) (some (.pt (.o .h) 0 0)) .e) none (.n .e (some (Lf (B ++ sL n l ((i : Int) + 1) (j : Int) (k + 1)))) .e)) none (.n (.n (.n .e (some (.i .i64 ((k + 1 : Nat) : Int))) .e) none .e) (some (.pt .h 0 0)) (.n .e (some (.i .i64 ((i : Int) + 1))) .e))), Lk (AG n coin box ls cs) (MH l) (B ++ sL n l ((i : Int) + 1) (j : Int) (k + 1)), rG (B ++ sL n l ((i : Int) + 1) (j : Int) (k + 1)), none⟩ : X) = ⟨(.n (.n (.n (.n .e (some (.i .i64 (j : Int))) .e) (some (.pt (.o .h) 0 0)) .e) none (.n .e (some (Lf E')) .e)) none (.n (.n (.n .e (some (.i .i64 ((k + 1 : Nat) : Int))) .e) none .e) (some (.pt .h 0 0)) (.n .e (some (.i .i64 ((i : Int) + 1))) .e))), Lk (AG n coin box ls cs) (MH l) E', rG E', none⟩ := fun E' h => by rw [h]
   have cA := HD l ⟨(i : Int) + 1, (j : Int), (k : Int)⟩
   conv => whnf
   refine Qg ?_
   refine WB.dec (fun h => ?_) (fun h => ?_) <;> conv => whnf
   ·have hkn : k < n.toNat := by omega
    cases hag : pW l ⟨(i : Int) + 1, (j : Int), (k : Int)⟩ with
    | true =>
      rw [hag, cond_true] at hkN
      rw [hag] at cA
      cases E with
      | nil =>
        repeat' ((first | refine Qz ?_ | refine Qf cA ?_) <;> conv => whnf)
        refine WSt.app_first (r := aI ⟨(i : Int) + 1, (j : Int), (k : Int)⟩) rfl (.inl rfl) rfl rfl rfl rfl ?_; conv => whnf
        refine Qg ?_
        refine Again.to (k + 1) (by omega) (by omega) ?_ ?_
        ·show (rG (B ++ sL n l ((i : Int) + 1) (j : Int) k)).nat <= (rG (B ++ sL n l ((i : Int) + 1) (j : Int) (k + 1))).nat
         rw [hC, hkN]; exact hupE _
        ·rw [hst _ hkN]
         refine Shr.of ?_ ?_ rfl rfl
         ·exact Rw
         ·(repeat' first | exact Rel.e | refine Rel.some ?_ ?_ ?_ | refine Rel.none ?_ ?_ | refine Rel.ee ?_ ?_)
          all_goals first
           | exact Ro (ShC.kp (kpB _))
           | exact Ro (ShC.kp (kpL _))
           | exact Ro (ShC.same (ShC.cn (.pu trivial) (ShC.cn (.pu trivial) (ShC.cn (.pu trivial) ShC.nl))))
      | cons a s =>
        repeat' ((first | refine Qz ?_ | refine Qf cA ?_) <;> conv => whnf)
        refine WSt.app_one (ds := Cp (a :: s)) (r := aI ⟨(i : Int) + 1, (j : Int), (k : Int)⟩) rfl rfl rfl rfl rfl rfl (by rw [EQ]; rfl) rfl rfl (by simp at hCl; omega) rfl ?_; conv => whnf
        refine Qg ?_
        refine Again.to (k + 1) (by omega) (by omega) ?_ ?_
        ·show (rG (B ++ sL n l ((i : Int) + 1) (j : Int) k)).nat <= (rG (B ++ sL n l ((i : Int) + 1) (j : Int) (k + 1))).nat
         rw [hC, hkN]; exact hupE _
        ·rw [hst _ hkN]
         refine Shr.of ?_ ?_ rfl rfl
         ·show Rel _ _ ((.n (.n (.n (.n .e (some (.i .i64 (j : Int))) .e) (some (.pt (.o .h) 0 0)) .e) none (.n .e (some (.sl (.o (.o .h)) 0 ((s ++ [(⟨(i : Int) + 1, (j : Int), (k : Int)⟩ : Ln)]).length + 1) (s ++ [(⟨(i : Int) + 1, (j : Int), (k : Int)⟩ : Ln)]).length 3)) .e)) none (.n (.n (.n .e (some (.i .i64 ((k + 1 : Nat) : Int))) .e) none .e) (some (.pt .h 0 0)) (.n .e (some (.i .i64 ((i : Int) + 1))) .e))) : T D) _
          rw [List.length_append, List.length_singleton]
          exact Rw
         ·show Rel _ _ (T.n (.n (.n .e (some (.cells false ((Cp ((a :: s) ++ [(⟨(i : Int) + 1, (j : Int), (k : Int)⟩ : Ln)])).map fun d => Cell.o d (s ++ [(⟨(i : Int) + 1, (j : Int), (k : Int)⟩ : Ln)]).length) ((s ++ [(⟨(i : Int) + 1, (j : Int), (k : Int)⟩ : Ln)]).length + 1))) .e) (some (MH l)) .e) (some (AG n coin box ls cs)) .e : T C) _
          rw [List.length_append, List.length_singleton, Cs]
          (repeat' first | exact Rel.e | refine Rel.some ?_ ?_ ?_ | refine Rel.none ?_ ?_ | refine Rel.ee ?_ ?_)
          all_goals first
           | exact Ro (ShC.kp (kpB _))
           | exact Ro (ShC.kp (kpL _))
           | (refine Ro ?_
              refine ShC.grown (by omega) (aF.2 fun d hd => ?_)
              rcases List.mem_append.1 hd with hd | hd
              ·exact aF.1 (Iw _) d hd
              ·simp only [aI, List.mem_cons, List.mem_nil_iff, or_false] at hd
               rcases hd with rfl | rfl | rfl <;> exact trivial)
    | false =>
      rw [hag, cond_false, List.append_nil] at hkN
      rw [hag] at cA
      repeat' ((first | refine Qz ?_ | refine Qf cA ?_) <;> conv => whnf)
      refine Again.to (k + 1) (by omega) (by omega) ?_ ?_
      ·show (rG (B ++ sL n l ((i : Int) + 1) (j : Int) k)).nat <= (rG (B ++ sL n l ((i : Int) + 1) (j : Int) (k + 1))).nat
       rw [hC, hkN]; exact Nat.le_refl _
      ·rw [hst _ hkN]
       refine Shr.kp2 ?_ ?_ (T.le_refl _) (Dx E kpB kpL)
       ·exact eR
       ·have h3 := Ac E
        show TAll (fun _ d => Kp (rG E).nat d) _
        repeat' first | exact TAll.e | refine TAll.some ?_ ?_ ?_ | refine TAll.none ?_ ?_
        all_goals first | exact Dc E | (simp [Kp, Pu, Pos.nat]; done) | (simp [Kp, Pos.nat]; omega)
   ·have he := hkE (by omega)
    refine Qg ?_
    refine Again.to (j + 1) (by omega) (by omega) ?_ ?_
    ·show (rG (A ++ hH n l ((i : Int) + 1) j)).nat <= (rG (A ++ hH n l ((i : Int) + 1) (j + 1))).nat
     rw [hB, <- he]; exact hupk
    ·show Shr _ (⟨(.n (.n (.n (.n .e (some (.i .i64 ((j + 1 : Nat) : Int))) .e) (some (.pt (.o .h) 0 0)) .e) none (.n .e (some (Lf (A ++ hH n l ((i : Int) + 1) (j + 1)))) .e)) none (.n .e (some (.pt .h 0 0)) (.n .e (some (.i .i64 ((i : Int) + 1))) .e))), Lk (AG n coin box ls cs) (MH l) (A ++ hH n l ((i : Int) + 1) (j + 1)), rG (A ++ hH n l ((i : Int) + 1) (j + 1)), none⟩)
     rw [<- he]
     refine Shr.kp2 ?_ ?_ (T.le_refl _) (Dx E kpB kpL)
     ·exact eR
     ·have h3 := Ac E
      show TAll (fun _ d => Kp (rG E).nat d) _
      repeat' first | exact TAll.e | refine TAll.some ?_ ?_ ?_ | refine TAll.none ?_ ?_
      all_goals first | exact Dc E | (simp [Kp, Pu, Pos.nat]; done) | (simp [Kp, Pos.nat]; omega)
  ·have he := hjE (by omega)
   refine Qg ?_
   refine Again.to (i + 1) (by omega) (by omega) ?_ ?_
   ·show (rG (CF n l i)).nat <= (rG (CF n l (i + 1))).nat
    rw [hA, <- he]; exact hupj
   ·show Shr _ (⟨(.n (.n (.n .e (some (.pt (.o .h) 0 0)) .e) none (.n .e (some (Lf (CF n l (i + 1)))) .e)) none (.n .e (some (.pt .h 0 0)) (.n .e (some (.i .i64 (((i + 1 : Nat) : Int) + 1))) .e))), Lk (AG n coin box ls cs) (MH l) (CF n l (i + 1)), rG (CF n l (i + 1)), none⟩)
    rw [<- he]
    refine Shr.kp2 ?_ ?_ (T.le_refl _) (Dx B kpB kpL)
    ·exact eR
    ·have h3 := Ac B
     show TAll (fun _ d => Kp (rG B).nat d) _
     repeat' first | exact TAll.e | refine TAll.some ?_ ?_ ?_ | refine TAll.none ?_ ?_
     all_goals first | exact Dc B | (simp [Kp, Pu, Pos.nat]; done) | (simp [Kp, Pos.nat]; omega)
 ·refine Qg ?_
  have he := Wj (by omega)
  subst he
  refine Fin.t (.inr rfl) rfl ?_
  cases hT : pL n l with
  | nil => exact .ns
  | cons a s =>
    exact Frz.whole (cs := (Cp (a :: s)).map fun d => Cell.o d s.length) (cur := s.length + 1) rfl (by simp [aC]) (dK _) rfl (aB _)
theorem kP {α : Type} {β : Type} (g : β -> α -> β) (b : β) {l : List α} {j : Nat} {d : α} (h : j < l.length) : (l.take (j + 1)).foldl g b = g ((l.take j).foldl g b) (l.getD j d) := by
 rw [aM (d := d) h, List.foldl_append]; rfl
theorem AB (n coin box : Int) (ls : List Ln) (cs : List Ct) (hn : 1 <= n /\ n <= 4) (hl : ls.length <= 1000) (hok : ls.all (cQ n) = true) : PureF Try.prog p63.ix [.ag (CZ n coin box ls cs)] (.i .i64 (eL n ls)) := by
 have e1 := aD aI ls
 refine PureF.run Wx (by simp) (by simp [aO, dF, Pu, CZ, aB, aE]) ?_; conv => whnf
 refine Qg ?_
 refine Rn.loop (fun j : Nat => ⟨(.n (.n (.n .e (some (.i .i64 (eL n (ls.take j)))) .e) (some (.pt .h 0 0)) .e) none (.n (.n .e (some (.i .i64 (j : Int))) .e) none .e)), (.n .e (some (AG n coin box ls cs)) .e), .o .h, none⟩) (fun j => j <= ls.length) (fun j => ls.length - j) 0 ?_ ?_ ?_
 ·refine X.le.mk ?_ ?_ (Nat.le_refl _) rfl rfl
  ·exact eR
  ·exact Lw
 ·exact Nat.zero_le _
 intro j hj
 have hj : j <= ls.length := hj
 have hmp := fN hn.1 hn.2 (ls.take j)
 conv => whnf
 refine Qg ?_
 refine WB.dec (fun h => ?_) (fun h => ?_) <;> conv => whnf
 ·have hlt : j < ls.length := by omega
  have hs : eL n (ls.take (j + 1)) = min 5000 (eL n (ls.take j) * kX n (ls.getD j default)) := kP _ _ hlt
  have hlo := List.all_eq_true.1 hok _ (bR (d := default) hlt)
  have hrl := CC hn hlo
  have hrb := nI hn.1 hn.2 (ls.getD j default)
  have er := aD aI (pL n (ls.getD j default))
  have cR := Dt n coin box ls cs (ls.getD j default) (by omega)
  have hm1 : 1 <= eL n (ls.take j) /\ eL n (ls.take j) <= 5000 := by omega
  have hmul : 1 <= eL n (ls.take j) * kX n (ls.getD j default) /\ eL n (ls.take j) * kX n (ls.getD j default) <= 160000 := by
   have a1 := Int.mul_le_mul hm1.1 hrb.1 (by omega) (by omega)
   have a2 := Int.mul_le_mul hm1.2 hrb.2 (by omega) (by omega)
   omega
  have hmul2 : eL n (ls.take j) * ((aC aI (pL n (ls.getD j default))).length : Int) = eL n (ls.take j) * kX n (ls.getD j default) := by rw [er, hrl]
  repeat' ((first | refine Qz ?_ | refine Qf cR ?_) <;> conv => whnf)
  refine Again.to (j + 1) (by omega) (by omega) (Nat.le_refl _) ?_
  rw [hs]
  refine Shr.of ?_ ?_ rfl rfl
  ·(repeat' first | exact Rel.e | refine Rel.some ?_ ?_ ?_ | refine Rel.none ?_ ?_ | refine Rel.ee ?_ ?_)
   all_goals show Fz _ _ _ _
   all_goals first | exact Fy | (refine Fz.i ?_; rw [hmul2])
  ·(repeat' first | exact Rel.e | refine Rel.some ?_ ?_ ?_ | refine Rel.none ?_ ?_ | refine Rel.ee ?_ ?_)
   exact Ro (ShC.kp (AA _ _ _ _ _ _))
 ·refine Qg ?_
  exact Fin.i rfl (by rw [List.take_of_length_le (by omega)])
theorem lF {n coin box : Int} {ls : List Ln} {cs : List Ct} (hlim : ¬ (8 < ls.length \/ 4 < cs.length)) (hv : kT n coin box ls cs = false) : aS n coin box ls cs = 1 := by
 unfold aS
 rw [if_neg hlim, hv]; rfl
theorem NX {n coin box : Int} {ls : List Ln} {cs : List Ct} {j : Nat} (hj : j < ls.length) (h : cQ n (ls.getD j default) = false) : kT n coin box ls cs = false := by
 have : ls.all (cQ n) = false := by
  rw [List.all_eq_false]
  exact ⟨_, bR (d := default) hj, by rw [h]; simp⟩
 unfold kT
 rw [this]; simp
theorem Rh {n coin box : Int} {ls : List Ln} {cs : List Ct} {j : Nat} (hj : j < cs.length) (h : qK ls.length (cs.getD j default) = false) : kT n coin box ls cs = false := by
 have : cs.all (qK ls.length) = false := by
  rw [List.all_eq_false]
  exact ⟨_, bR (d := default) hj, by rw [h]; simp⟩
 unfold kT
 rw [this]; simp
theorem Ez (n coin box : Int) (ls : List Ln) (cs : List Ct) : PureF Try.prog p70.ix [.ag (CZ n coin box ls cs)] (.i .i64 (aS n coin box ls cs)) := by
 have e1 := aD aI ls
 have e2 := aD cX cs
 have kpB := AA n coin box ls cs
 refine PureF.run WH (by simp) (by simp [aO, dF, Pu, CZ, aB, aE]) ?_; conv => whnf
 by_cases hlim : 8 < ls.length \/ 4 < cs.length
 ·have hf : aS n coin box ls cs = 3 := by unfold aS; rw [if_pos hlim]
  rw [hf]
  rcases hlim with hlim | hlim
  ·repeat' ((first | refine Qw ?_ | refine Qd (fun h => ?_) (fun h => ?_)) <;> conv => whnf)
   all_goals first | exact Fin.i rfl rfl | (exfalso; omega)
  ·by_cases h8 : 8 < ls.length
   ·repeat' ((first | refine Qw ?_ | refine Qd (fun h => ?_) (fun h => ?_)) <;> conv => whnf)
    all_goals first | exact Fin.i rfl rfl | (exfalso; omega)
   ·repeat' ((first | refine Qw ?_ | refine Qd (fun h => ?_) (fun h => ?_)) <;> conv => whnf)
    all_goals first | exact Fin.i rfl rfl | (exfalso; omega)
 have h8 : ¬ 8 < ls.length := fun h => hlim (.inl h)
 have h4 : ¬ 4 < cs.length := fun h => hlim (.inr h)
 cases b1 : gE n 1 4 with
 | false =>
   have c1 := nL n 1 4
   rw [b1] at c1
   have hf := lF (n := n) (coin := coin) (box := box) hlim (by unfold kT; rw [b1]; rfl)
   repeat' ((first | refine Qw ?_ | refine Qf c1 ?_ | refine Qd (fun h => ?_) (fun h => ?_)) <;> conv => whnf)
   all_goals first | exact Fin.i rfl hf.symm | (exfalso; omega)
 | true =>
 cases b2 : gE coin 1 99 with
 | false =>
   have c1 := nL n 1 4
   have c2 := nL coin 1 99
   rw [b1] at c1
   rw [b2] at c2
   have hf := lF (n := n) (coin := coin) (box := box) hlim (by unfold kT; rw [b1, b2]; rfl)
   repeat' ((first | refine Qw ?_ | refine Qf c1 ?_ | refine Qf c2 ?_ | refine Qd (fun h => ?_) (fun h => ?_)) <;> conv => whnf)
   all_goals first | exact Fin.i rfl hf.symm | (exfalso; omega)
 | true =>
 cases b3 : gE box 0 999 with
 | false =>
   have c1 := nL n 1 4
   have c2 := nL coin 1 99
   have c3 := nL box 0 999
   rw [b1] at c1
   rw [b2] at c2
   rw [b3] at c3
   have hf := lF (n := n) (coin := coin) (box := box) hlim (by unfold kT; rw [b1, b2, b3]; rfl)
   repeat' ((first | refine Qw ?_ | refine Qf c1 ?_ | refine Qf c2 ?_ | refine Qf c3 ?_ | refine Qd (fun h => ?_) (fun h => ?_)) <;> conv => whnf)
   all_goals first | exact Fin.i rfl hf.symm | (exfalso; omega)
 | true =>
 have c1 := nL n 1 4
 have c2 := nL coin 1 99
 have c3 := nL box 0 999
 rw [b1] at c1
 rw [b2] at c2
 rw [b3] at c3
 have hn := aP.1 b1
 repeat' ((first | refine Qw ?_ | refine Qf c1 ?_ | refine Qf c2 ?_ | refine Qf c3 ?_ | refine Qd (fun h => ?_) (fun h => ?_)) <;> conv => whnf)
 refine Rn.loop (fun j : Nat => ⟨(.n (.n (.n .e (some (.i .i64 (j : Int))) .e) (some (.pt .h 0 0)) .e) none .e), (.n .e (some (AG n coin box ls cs)) .e), .o .h, none⟩) (fun j => j <= ls.length /\ (ls.take j).all (cQ n) = true) (fun j => ls.length - j) 0 ?_ ?_ ?_
 ·refine X.le.mk ?_ ?_ (Nat.le_refl _) rfl rfl
  ·exact eR
  ·exact Lw
 ·exact ⟨Nat.zero_le _, rfl⟩
 rintro j ⟨hj, ha⟩
 conv => whnf
 refine Qg ?_
 refine WB.dec (fun h => ?_) (fun h => ?_) <;> conv => whnf
 ·have hlt : j < ls.length := by omega
  obtain ⟨x, hx⟩ : ∃ x, x = ls.getD j default := ⟨_, rfl⟩
  have d1 := nL x.k 0 2
  have d2 := nL x.c (-1) (n - 1)
  have d3 := nL x.t (-1) (n - 1)
  have hbad : cQ n x = false -> aS n coin box ls cs = 1 := fun h => lF hlim (NX hlt (by rw [<- hx]; exact h))
  have hgood : cQ n x = true -> (ls.take (j + 1)).all (cQ n) = true := fun h => by
   rw [aM (d := default) hlt, List.all_append, ha, <- hx]
   simp [h]
  have hok : cQ n x = (gE x.k 0 2 && (gE x.c (-1) (n - 1) && gE x.t (-1) (n - 1))) := rfl
  have hst : ∀ (sl : T D) (ob : T C) (nx : Pos), T.le ((.n (.n (.n .e (some (.i .i64 ((j + 1 : Nat) : Int))) .e) (some (.pt .h 0 0)) .e) none .e) : T D) sl -> T.le ((.n .e (some (AG n coin box ls cs)) .e) : T C) ob -> Shr ⟨sl, ob, nx, none⟩ ⟨(.n (.n (.n .e (some (.i .i64 ((j + 1 : Nat) : Int))) .e) (some (.pt .h 0 0)) .e) none .e), (.n .e (some (AG n coin box ls cs)) .e), .o .h, none⟩ := fun sl ob nx hs ho => by
   refine Shr.kp2 hs ?_ ho ?_
   ·show TAll (fun _ d => Kp 2 d) _
    repeat' first | exact TAll.e | refine TAll.some ?_ ?_ ?_ | refine TAll.none ?_ ?_
    all_goals simp [Kp, Pu, Pos.nat]
   ·show TAll (fun id c => id.nat < 2 /\ KpC 2 c) _
    exact TAll.some TAll.e ⟨by simp [Pos.nat], kpB _⟩ TAll.e
  rw [hx] at d1 d2 d3
  cases q1 : gE (ls.getD j default).k 0 2 with
  | false =>
    rw [q1] at d1
    have hf := hbad (by rw [hok, hx, q1]; rfl)
    repeat' ((first | refine Qw ?_ | refine Qf d1 ?_ | refine Qd (fun h => ?_) (fun h => ?_)) <;> conv => whnf)
    exact Fin.i rfl hf.symm
  | true =>
  cases q2 : gE (ls.getD j default).c (-1) (n - 1) with
  | false =>
    rw [q1] at d1
    rw [q2] at d2
    have hf := hbad (by rw [hok, hx, q1, q2]; rfl)
    repeat' ((first | refine Qw ?_ | refine Qf d1 ?_ | refine Qf d2 ?_ | refine Qd (fun h => ?_) (fun h => ?_)) <;> conv => whnf)
    exact Fin.i rfl hf.symm
  | true =>
  cases q3 : gE (ls.getD j default).t (-1) (n - 1) with
  | false =>
    rw [q1] at d1
    rw [q2] at d2
    rw [q3] at d3
    have hf := hbad (by rw [hok, hx, q1, q2, q3]; rfl)
    repeat' ((first | refine Qw ?_ | refine Qf d1 ?_ | refine Qf d2 ?_ | refine Qf d3 ?_ | refine Qd (fun h => ?_) (fun h => ?_)) <;> conv => whnf)
    exact Fin.i rfl hf.symm
  | true =>
    rw [q1] at d1
    rw [q2] at d2
    rw [q3] at d3
    have hg := hgood (by rw [hok, hx, q1, q2, q3]; rfl)
    repeat' ((first | refine Qw ?_ | refine Qf d1 ?_ | refine Qf d2 ?_ | refine Qf d3 ?_ | refine Qd (fun h => ?_) (fun h => ?_)) <;> conv => whnf)
    refine Again.to (j + 1) (by omega) ⟨by omega, hg⟩ (Nat.le_refl _) (hst _ _ _ ?_ ?_)
    ·exact eR
    ·exact Lw
 have hall : ls.all (cQ n) = true := by rwa [List.take_of_length_le (by omega)] at ha
 refine Qg ?_
 refine Rn.loop (fun j : Nat => ⟨(.n (.n .e (some (.pt .h 0 0)) (.n .e (some (.i .i64 (j : Int))) .e)) none .e), (.n .e (some (AG n coin box ls cs)) .e), .o .h, none⟩) (fun j => j <= cs.length /\ (cs.take j).all (qK ls.length) = true) (fun j => cs.length - j) 0 ?_ ?_ ?_
 ·refine X.le.mk ?_ ?_ (Nat.le_refl _) rfl rfl
  ·exact eR
  ·exact Lw
 ·exact ⟨Nat.zero_le _, rfl⟩
 rintro q ⟨hq, hb⟩
 conv => whnf
 refine Qg ?_
 refine WB.dec (fun h => ?_) (fun h => ?_) <;> conv => whnf
 ·have hlt : q < cs.length := by omega
  have d1 := nL (cs.getD q default).a 0 ((aC aI ls).length : Int)
  have hbad : qK ls.length (cs.getD q default) = false -> aS n coin box ls cs = 1 := fun h => lF hlim (Rh hlt h)
  have hgood : qK ls.length (cs.getD q default) = true -> (cs.take (q + 1)).all (qK ls.length) = true := fun h => by
   rw [aM (d := default) hlt, List.all_append, hb, Bool.true_and, List.all_cons, List.all_nil, Bool.and_true]
   exact h
  have hok : qK ls.length (cs.getD q default) = (gE (cs.getD q default).a 0 ((aC aI ls).length : Int) && (decide (0 <= (cs.getD q default).lo) && (decide ((cs.getD q default).lo <= (cs.getD q default).hi) && decide ((cs.getD q default).hi <= 2000)))) := by rw [e1]; rfl
  have hst : ∀ (sl : T D) (ob : T C) (nx : Pos), T.le ((.n (.n .e (some (.pt .h 0 0)) (.n .e (some (.i .i64 ((q + 1 : Nat) : Int))) .e)) none .e) : T D) sl -> T.le ((.n .e (some (AG n coin box ls cs)) .e) : T C) ob -> Shr ⟨sl, ob, nx, none⟩ ⟨(.n (.n .e (some (.pt .h 0 0)) (.n .e (some (.i .i64 ((q + 1 : Nat) : Int))) .e)) none .e), (.n .e (some (AG n coin box ls cs)) .e), .o .h, none⟩ := fun sl ob nx hs ho => by
   refine Shr.kp2 hs ?_ ho ?_
   ·show TAll (fun _ d => Kp 2 d) _
    repeat' first | exact TAll.e | refine TAll.some ?_ ?_ ?_ | refine TAll.none ?_ ?_
    all_goals simp [Kp, Pu, Pos.nat]
   ·show TAll (fun id c => id.nat < 2 /\ KpC 2 c) _
    exact TAll.some TAll.e ⟨by simp [Pos.nat], kpB _⟩ TAll.e
  cases q1 : gE (cs.getD q default).a 0 ((aC aI ls).length : Int) with
  | false =>
    rw [q1] at d1
    have hf := hbad (by rw [hok, q1]; rfl)
    repeat' ((first | refine Qw ?_ | refine Qf d1 ?_ | refine Qd (fun h => ?_) (fun h => ?_)) <;> conv => whnf)
    exact Fin.i rfl hf.symm
  | true =>
  rw [q1] at d1
  rw [q1, Bool.true_and] at hok
  by_cases k1 : 0 <= (cs.getD q default).lo
  ·by_cases k2 : (cs.getD q default).lo <= (cs.getD q default).hi
   ·by_cases k3 : (cs.getD q default).hi <= 2000
    ·have hg := hgood (by rw [hok, decide_eq_true k1, decide_eq_true k2, decide_eq_true k3]; rfl)
     repeat' ((first | refine Qw ?_ | refine Qf d1 ?_ | refine Qd (fun h => ?_) (fun h => ?_)) <;> conv => whnf)
     refine Again.to (q + 1) (by omega) ⟨by omega, hg⟩ (Nat.le_refl _) (hst _ _ _ ?_ ?_)
     ·exact eR
     ·exact Lw
    ·have hf := hbad (by rw [hok, decide_eq_true k1, decide_eq_true k2, decide_eq_false k3]; rfl)
     repeat' ((first | refine Qw ?_ | refine Qf d1 ?_ | refine Qd (fun h => ?_) (fun h => ?_)) <;> conv => whnf)
     all_goals exact Fin.i rfl hf.symm
   ·have hf := hbad (by rw [hok, decide_eq_true k1, decide_eq_false k2]; rfl)
    repeat' ((first | refine Qw ?_ | refine Qf d1 ?_ | refine Qd (fun h => ?_) (fun h => ?_)) <;> conv => whnf)
    all_goals exact Fin.i rfl hf.symm
  ·have hf := hbad (by rw [hok, decide_eq_false k1]; rfl)
   repeat' ((first | refine Qw ?_ | refine Qf d1 ?_ | refine Qd (fun h => ?_) (fun h => ?_)) <;> conv => whnf)
   all_goals exact Fin.i rfl hf.symm
 have hallc : cs.all (qK ls.length) = true := by rwa [List.take_of_length_le (by omega)] at hb
 have cM := AB n coin box ls cs hn (by omega) hall
 have hf : aS n coin box ls cs = if 4096 < eL n ls then 3 else 0 := by
  unfold aS
  rw [if_neg hlim, if_pos (by unfold kT; rw [b1, b2, b3, hall, hallc]; rfl)]
 by_cases hm : 4096 < eL n ls
 ·rw [if_pos hm] at hf
  repeat' ((first | refine Qw ?_ | refine Qf cM ?_ | refine Qd (fun h => ?_) (fun h => ?_)) <;> conv => whnf)
  all_goals exact Fin.i rfl hf.symm
 ·rw [if_neg hm] at hf
  repeat' ((first | refine Qw ?_ | refine Qf cM ?_ | refine Qd (fun h => ?_) (fun h => ?_)) <;> conv => whnf)
  all_goals exact Fin.i rfl hf.symm
def Fv (n coin box : Int) (ls : List Ln) (cs : List Ct) : Bool := decide (ls.length <= 10) && (decide (cs.length <= 6) && (!decide (aS n coin box ls cs = 0) || decide (eL n ls <= 100)))
theorem QP (n coin box : Int) (ls : List Ln) (cs : List Ct) : PureF Try.prog p21.ix [.ag (CZ n coin box ls cs)] (.b (Fv n coin box ls cs)) := by
 have e1 := aD aI ls
 have e2 := aD cX cs
 have cF := Ez n coin box ls cs
 have ht : Fv n coin box ls cs = (decide (ls.length <= 10) && (decide (cs.length <= 6) && (!decide (aS n coin box ls cs = 0) || decide (eL n ls <= 100)))) := rfl
 refine PureF.run WE (by simp) (by simp [aO, dF, Pu, CZ, aB, aE]) ?_; conv => whnf
 by_cases h1 : ls.length <= 10
 ·by_cases h2 : cs.length <= 6
  ·rw [decide_eq_true h1, decide_eq_true h2, Bool.true_and, Bool.true_and] at ht
   rw [ht]
   by_cases hf : aS n coin box ls cs = 0
   ·obtain ⟨f1, f2, f3, f4⟩ := jL hf
    have f3' := f3
    unfold kT at f3'
    simp only [Bool.and_eq_true] at f3'
    have cM := AB n coin box ls cs (aP.1 f3'.1) (by omega) f3'.2.2.2.1
    rw [hf] at cF ⊢
    by_cases hm : eL n ls <= 100
    ·repeat' ((first | refine Qw ?_ | refine Qf cF ?_ | refine Qf cM ?_ | refine Qd (fun h => ?_) (fun h => ?_)) <;> conv => whnf)
     all_goals exact Fin.b rfl (by simp [hm])
    ·repeat' ((first | refine Qw ?_ | refine Qf cF ?_ | refine Qf cM ?_ | refine Qd (fun h => ?_) (fun h => ?_)) <;> conv => whnf)
     all_goals exact Fin.b rfl (by simp [hm])
   ·repeat' ((first | refine Qw ?_ | refine Qf cF ?_ | refine Qd (fun h => ?_) (fun h => ?_)) <;> conv => whnf)
    all_goals exact Fin.b rfl (by simp [hf])
  ·rw [decide_eq_false h2, Bool.false_and, Bool.and_false] at ht
   rw [ht]
   repeat' ((first | refine Qw ?_ | refine Qf cF ?_ | refine Qd (fun h => ?_) (fun h => ?_)) <;> conv => whnf)
   all_goals exact Fin.b rfl (by first | rfl | (exact decide_eq_false (by omega)))
 ·rw [decide_eq_false h1, Bool.false_and] at ht
  rw [ht]
  repeat' ((first | refine Qw ?_ | refine Qf cF ?_ | refine Qd (fun h => ?_) (fun h => ?_)) <;> conv => whnf)
  all_goals exact Fin.b rfl (by first | rfl | (exact decide_eq_false (by omega)))
theorem WB.fF {t : Bool} {F : Bool -> Prop} (h : t = false) (k : F false) : WB t F := ⟨fun e => (by rw [h] at e; cases e), fun _ => k⟩
theorem WB.fT {t : Bool} {F : Bool -> Prop} (h : t = true) (k : F true) : WB t F := ⟨fun _ => k, fun e => (by rw [h] at e; cases e)⟩
theorem xD (Tr : List Ln) (m : Nat) (c : Int) (hT : Tr.length <= 1000) (hm : m <= Tr.length) : PureF Try.prog p57.ix [.lst 3 (aC aI Tr), .i .i64 (m : Int), .i .i64 c] (.i .i64 (aZ Tr c m)) := by
 have e1 := aD aI Tr
 refine PureF.run XQ (by simp) (by simp [aO, dF, Pu, aB]) ?_; conv => whnf
 refine Qg ?_
 refine Rn.loop (fun j : Nat => ⟨(.n (.n (.n (.n .e (some (.i .i64 (aZ Tr c j))) .e) none .e) (some (.i .i64 (m : Int))) .e) (some (.lst 3 (aC aI Tr))) (.n (.n (.n .e (some (.i .i64 (j : Int))) .e) none .e) (some (.i .i64 c)) .e)), .e, .h, none⟩) (fun j => j <= m) (fun j => m - j) 0 ?_ ?_ ?_
 ·(first | (refine X.le.mk ?_ ?_ (Nat.le_refl _) rfl rfl) | skip) <;> (repeat' first | exact T.le_e _ | refine T.le_some ?_ ?_ ?_ | refine T.le_none ?_ ?_ | rfl)
 ·exact Nat.zero_le _
 intro j hj
 have hj : j <= m := hj
 have hs : aZ Tr c (j + 1) = if (Tr.getD j default).c = c then (if (Tr.getD j default).k = 1 then (j : Int) else -1) else aZ Tr c j := rfl
 conv => whnf
 refine Qg ?_
 refine WB.dec (fun h => ?_) (fun h => ?_) <;> conv => whnf
 ·have hlt : j < Tr.length := by omega
  by_cases h1 : (Tr.getD j default).c = c
  ·rw [if_pos h1] at hs
   by_cases h2 : (Tr.getD j default).k = 1
   ·rw [if_pos h2] at hs
    repeat' ((first | refine Qw ?_ | refine Qd (fun h => ?_) (fun h => ?_)) <;> conv => whnf)
    refine Again.to (j + 1) (by omega) (by omega) (Nat.le_refl _) ?_
    rw [hs]
    (refine Shr.of ?_ ?_ rfl rfl) <;> (repeat' first | exact Rel.e | refine Rel.some ?_ ?_ ?_ | refine Rel.none ?_ ?_) <;> (try first | exact Fx | (refine Ro (ShC.same ?_); (repeat' first | exact ShC.nl | refine ShC.cn ?_ ?_) <;> exact Fx))
    all_goals exact Fz.pu (aB _)
   ·rw [if_neg h2] at hs
    repeat' ((first | refine Qw ?_ | refine Qd (fun h => ?_) (fun h => ?_)) <;> conv => whnf)
    refine Again.to (j + 1) (by omega) (by omega) (Nat.le_refl _) ?_
    rw [hs]
    (refine Shr.of ?_ ?_ rfl rfl) <;> (repeat' first | exact Rel.e | refine Rel.some ?_ ?_ ?_ | refine Rel.none ?_ ?_) <;> (try first | exact Fx | (refine Ro (ShC.same ?_); (repeat' first | exact ShC.nl | refine ShC.cn ?_ ?_) <;> exact Fx))
    all_goals exact Fz.pu (aB _)
  ·rw [if_neg h1] at hs
   repeat' ((first | refine Qw ?_ | refine Qd (fun h => ?_) (fun h => ?_)) <;> conv => whnf)
   refine Again.to (j + 1) (by omega) (by omega) (Nat.le_refl _) ?_
   rw [hs]
   (refine Shr.of ?_ ?_ rfl rfl) <;> (repeat' first | exact Rel.e | refine Rel.some ?_ ?_ ?_ | refine Rel.none ?_ ?_) <;> (try first | exact Fx | (refine Ro (ShC.same ?_); (repeat' first | exact ShC.nl | refine ShC.cn ?_ ?_) <;> exact Fx))
   all_goals exact Fz.pu (aB _)
 ·refine Qg ?_
  exact Fin.i rfl (by rw [show m = j by omega])
theorem uX (Tr : List Ln) (m : Nat) (c : Int) (hT : Tr.length <= 1000) (hm : m <= Tr.length) : PureF Try.prog p58.ix [.lst 3 (aC aI Tr), .i .i64 (m : Int), .i .i64 c] (.i .i64 (bC Tr c m)) := by
 have e1 := aD aI Tr
 refine PureF.run Xr (by simp) (by simp [aO, dF, Pu, aB]) ?_; conv => whnf
 refine Qg ?_
 refine Rn.loop (fun j : Nat => ⟨(.n (.n (.n (.n .e (some (.i .i64 (bC Tr c j))) .e) none .e) (some (.i .i64 (m : Int))) .e) (some (.lst 3 (aC aI Tr))) (.n (.n (.n .e (some (.i .i64 (j : Int))) .e) none .e) (some (.i .i64 c)) .e)), .e, .h, none⟩) (fun j => j <= m) (fun j => m - j) 0 ?_ ?_ ?_
 ·(first | (refine X.le.mk ?_ ?_ (Nat.le_refl _) rfl rfl) | skip) <;> (repeat' first | exact T.le_e _ | refine T.le_some ?_ ?_ ?_ | refine T.le_none ?_ ?_ | rfl)
 ·exact Nat.zero_le _
 intro j hj
 have hj : j <= m := hj
 have hs : bC Tr c (j + 1) = if (Tr.getD j default).t = c then (if (Tr.getD j default).k = 1 then (j : Int) else -1) else bC Tr c j := rfl
 conv => whnf
 refine Qg ?_
 refine WB.dec (fun h => ?_) (fun h => ?_) <;> conv => whnf
 ·have hlt : j < Tr.length := by omega
  by_cases h1 : (Tr.getD j default).t = c
  ·rw [if_pos h1] at hs
   by_cases h2 : (Tr.getD j default).k = 1
   ·rw [if_pos h2] at hs
    repeat' ((first | refine Qw ?_ | refine Qd (fun h => ?_) (fun h => ?_)) <;> conv => whnf)
    refine Again.to (j + 1) (by omega) (by omega) (Nat.le_refl _) ?_
    rw [hs]
    (refine Shr.of ?_ ?_ rfl rfl) <;> (repeat' first | exact Rel.e | refine Rel.some ?_ ?_ ?_ | refine Rel.none ?_ ?_) <;> (try first | exact Fx | (refine Ro (ShC.same ?_); (repeat' first | exact ShC.nl | refine ShC.cn ?_ ?_) <;> exact Fx))
    all_goals exact Fz.pu (aB _)
   ·rw [if_neg h2] at hs
    repeat' ((first | refine Qw ?_ | refine Qd (fun h => ?_) (fun h => ?_)) <;> conv => whnf)
    refine Again.to (j + 1) (by omega) (by omega) (Nat.le_refl _) ?_
    rw [hs]
    (refine Shr.of ?_ ?_ rfl rfl) <;> (repeat' first | exact Rel.e | refine Rel.some ?_ ?_ ?_ | refine Rel.none ?_ ?_) <;> (try first | exact Fx | (refine Ro (ShC.same ?_); (repeat' first | exact ShC.nl | refine ShC.cn ?_ ?_) <;> exact Fx))
    all_goals exact Fz.pu (aB _)
  ·rw [if_neg h1] at hs
   repeat' ((first | refine Qw ?_ | refine Qd (fun h => ?_) (fun h => ?_)) <;> conv => whnf)
   refine Again.to (j + 1) (by omega) (by omega) (Nat.le_refl _) ?_
   rw [hs]
   (refine Shr.of ?_ ?_ rfl rfl) <;> (repeat' first | exact Rel.e | refine Rel.some ?_ ?_ ?_ | refine Rel.none ?_ ?_) <;> (try first | exact Fx | (refine Ro (ShC.same ?_); (repeat' first | exact ShC.nl | refine ShC.cn ?_ ?_) <;> exact Fx))
   all_goals exact Fz.pu (aB _)
 ·refine Qg ?_
  exact Fin.i rfl (by rw [show m = j by omega])
theorem qS (Tr : List Ln) (hT : Tr.length <= 1000) : PureF Try.prog p31.ix [.lst 3 (aC aI Tr)] (.b (dY Tr)) := by
 have e1 := aD aI Tr
 refine PureF.run YU (by simp) (by simp [aO, dF, Pu, aB]) ?_; conv => whnf
 refine Qg ?_
 refine Rn.loop (fun j : Nat => ⟨(.n (.n (.n .e (some (.i .i64 (j : Int))) .e) none .e) (some (.lst 3 (aC aI Tr))) .e), .e, .h, none⟩) (fun j => j <= Tr.length /\ (List.range j).all (eE Tr) = true) (fun j => Tr.length - j) 0 ?_ ?_ ?_
 ·(first | (refine X.le.mk ?_ ?_ (Nat.le_refl _) rfl rfl) | skip) <;> (repeat' first | exact T.le_e _ | refine T.le_some ?_ ?_ ?_ | refine T.le_none ?_ ?_ | rfl)
 ·exact ⟨Nat.zero_le _, rfl⟩
 rintro j ⟨hj, ha⟩
 conv => whnf
 refine Qg ?_
 refine WB.dec (fun h => ?_) (fun h => ?_) <;> conv => whnf
 ·have hlt : j < Tr.length := by omega
  have c1 := xD Tr j (Tr.getD j default).c hT hj
  have c2 := uX Tr j (Tr.getD j default).t hT hj
  have hbad : eE Tr j = false -> dY Tr = false := fun h => uJ hlt h
  have hok : eE Tr j = ((decide (0 <= aZ Tr (Tr.getD j default).c j) == decide ((Tr.getD j default).k = 2)) && (decide (0 <= bC Tr (Tr.getD j default).t j) == decide ((Tr.getD j default).k = 2))) := rfl
  repeat' ((first | refine Qw ?_ | refine Qf c1 ?_ | refine Qf c2 ?_) <;> conv => whnf)
  cases hA : (decide (0 <= aZ Tr (Tr.getD j default).c j) == decide ((Tr.getD j default).k = 2)) with
  | false =>
    refine WB.fT rfl ?_; conv => whnf
    repeat' ((first | refine Qw ?_) <;> conv => whnf)
    exact Fin.b rfl (by rw [hbad (by rw [hok, hA]; rfl)])
  | true =>
  refine WB.fF rfl ?_; conv => whnf
  repeat' ((first | refine Qw ?_) <;> conv => whnf)
  cases hB : (decide (0 <= bC Tr (Tr.getD j default).t j) == decide ((Tr.getD j default).k = 2)) with
  | false =>
    refine WB.fT rfl ?_; conv => whnf
    repeat' ((first | refine Qw ?_) <;> conv => whnf)
    exact Fin.b rfl (by rw [hbad (by rw [hok, hA, hB]; rfl)])
  | true =>
  refine WB.fF rfl ?_; conv => whnf
  repeat' ((first | refine Qw ?_) <;> conv => whnf)
  refine Again.to (j + 1) (by omega) ⟨by omega, wV ha (by rw [hok, hA, hB]; rfl)⟩ (Nat.le_refl _) ?_
  (refine Shr.of ?_ ?_ rfl rfl) <;> (repeat' first | exact Rel.e | refine Rel.some ?_ ?_ ?_ | refine Rel.none ?_ ?_) <;> (try first | exact Fx | (refine Ro (ShC.same ?_); (repeat' first | exact ShC.nl | refine ShC.cn ?_ ?_) <;> exact Fx))
  all_goals exact Fz.pu (aB _)
 ·refine Qg ?_
  exact Fin.b rfl (by unfold dY; rw [show Tr.length = j by omega, ha])
theorem LD (n coin box : Int) (ls : List Ln) (cs : List Ct) (Tr : List Ln) (m : Nat) (hb : 0 <= box /\ box <= 999) (hc : 1 <= coin /\ coin <= 99) (hT : Tr.length <= 1000) (hm : m <= Tr.length) : PureF Try.prog p33.ix [.ag (CZ n coin box ls cs), .lst 3 (aC aI Tr), .i .i64 (m : Int)] (.i .i64 (cL box coin Tr m)) := by
 have e1 := aD aI Tr
 refine PureF.run XX (by simp) (by simp [aO, dF, Pu, CZ, aB, aE]) ?_; conv => whnf
 refine Qg ?_
 refine Rn.loop (fun j : Nat => ⟨(.n (.n (.n (.n .e (some (.i .i64 (cL box coin Tr j))) .e) (some (.pt .h 0 0)) .e) (some (.lst 3 (aC aI Tr))) .e) none (.n (.n (.n .e (some (.i .i64 (j : Int))) .e) none .e) (some (.i .i64 (m : Int))) .e)), (.n .e (some (AG n coin box ls cs)) .e), .o .h, none⟩) (fun j => j <= m) (fun j => m - j) 0 ?_ ?_ ?_
 ·refine X.le.mk ?_ ?_ (Nat.le_refl _) rfl rfl
  ·exact eR
  ·exact Lw
 ·exact Nat.zero_le _
 intro j hj
 have hj : j <= m := hj
 have hs : cL box coin Tr (j + 1) = if (Tr.getD j default).k = 1 then cL box coin Tr j + coin else cL box coin Tr j - coin := rfl
 have hbd := sF (T := Tr) hb hc j
 have hst : ∀ (v : Int) (sl : T D) (ob : T C) (nx : Pos), v = cL box coin Tr (j + 1) -> T.le ((.n (.n (.n (.n .e (some (.i .i64 v)) .e) (some (.pt .h 0 0)) .e) (some (.lst 3 (aC aI Tr))) .e) none (.n (.n (.n .e (some (.i .i64 ((j + 1 : Nat) : Int))) .e) none .e) (some (.i .i64 (m : Int))) .e)) : T D) sl -> T.le ((.n .e (some (AG n coin box ls cs)) .e) : T C) ob -> Shr ⟨sl, ob, nx, none⟩ ⟨(.n (.n (.n (.n .e (some (.i .i64 (cL box coin Tr (j + 1)))) .e) (some (.pt .h 0 0)) .e) (some (.lst 3 (aC aI Tr))) .e) none (.n (.n (.n .e (some (.i .i64 ((j + 1 : Nat) : Int))) .e) none .e) (some (.i .i64 (m : Int))) .e)), (.n .e (some (AG n coin box ls cs)) .e), .o .h, none⟩ := fun v sl ob nx hv hs ho => by
  subst hv
  refine Shr.kp2 hs ?_ ho ?_
  ·show TAll (fun _ d => Kp 2 d) _
   repeat' first | exact TAll.e | refine TAll.some ?_ ?_ ?_ | refine TAll.none ?_ ?_
   all_goals simp [Kp, Pu, aB, Pos.nat]
  ·show TAll (fun id c => id.nat < 2 /\ KpC 2 c) _
   exact TAll.some TAll.e ⟨by simp [Pos.nat], AA _ _ _ _ _ _⟩ TAll.e
 conv => whnf
 refine Qg ?_
 refine WB.dec (fun h => ?_) (fun h => ?_) <;> conv => whnf
 ·have hlt : j < Tr.length := by omega
  by_cases h1 : (Tr.getD j default).k = 1
  ·rw [if_pos h1] at hs
   repeat' ((first | refine Qw ?_ | refine Qd (fun h => ?_) (fun h => ?_)) <;> conv => whnf)
   refine Again.to (j + 1) (by omega) (by omega) (Nat.le_refl _) (hst _ _ _ _ hs.symm ?_ ?_)
   ·exact eR
   ·exact Lw
  ·rw [if_neg h1] at hs
   repeat' ((first | refine Qw ?_ | refine Qd (fun h => ?_) (fun h => ?_)) <;> conv => whnf)
   refine Again.to (j + 1) (by omega) (by omega) (Nat.le_refl _) (hst _ _ _ _ hs.symm ?_ ?_)
   ·exact eR
   ·exact Lw
 ·refine Qg ?_
  exact Fin.i rfl (by rw [show m = j by omega])
def sI (n coin box : Int) (ls : List Ln) (cs : List Ct) (Tr : List Ln) : Bool := iV n ls Tr && (dY Tr && xG box coin cs Tr)
end Go.Ev
end
