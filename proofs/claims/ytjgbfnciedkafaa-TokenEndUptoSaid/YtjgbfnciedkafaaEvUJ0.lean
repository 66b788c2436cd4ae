import Derived.Test.YtjgbfnciedkafaaEvUOc
set_option linter.all false
namespace Go.Ev
set_option maxRecDepth 100000
structure Ln where
  k : Int
  c : Int
  t : Int
deriving Inhabited
structure Ct where
  a : Int
  lo : Int
  hi : Int
deriving Inhabited
def lnD (l : Ln) : List D := [.i .i64 l.k, .i .i64 l.c, .i .i64 l.t]
def ctD (c : Ct) : List D := [.i .i64 c.a, .i .i64 c.lo, .i .i64 c.hi]
def bk5 (n coin box : Int) (ls : List Ln) (cs : List Ct) : List D := [.i .i64 n, .i .i64 coin, .i .i64 box, .lst 3 (rows lnD ls), .lst 3 (rows ctD cs)]
theorem pu_ln (ls : List Ln) : PuE (rows lnD ls) := pu_rows (fun l => by simp [lnD, PuL, Pu]) ls
theorem pu_ct (cs : List Ct) : PuE (rows ctD cs) := pu_rows (fun l => by simp [ctD, PuL, Pu]) cs
theorem ln_three (ls : List Ln) : ∀ r ∈ rows lnD ls, r.length = 3 := fun r hr => by
  obtain ⟨l, _, rfl⟩ := List.mem_map.1 hr
  rfl
theorem ct_three (cs : List Ct) : ∀ r ∈ rows ctD cs, r.length = 3 := fun r hr => by
  obtain ⟨l, _, rfl⟩ := List.mem_map.1 hr
  rfl
def agB (l x : Ln) : Bool := (decide (l.k = 0) || decide (l.k = x.k)) && ((decide (l.c < 0) || decide (l.c = x.c)) && (decide (l.t < 0) || decide (l.t = x.t)))
def inR (n a b : Int) : Bool := decide (a ≤ n ∧ n ≤ b)
theorem inR_iff {n a b : Int} : inR n a b = true ↔ a ≤ n ∧ n ≤ b := decide_eq_true_iff
def lnOk (n : Int) (l : Ln) : Bool := inR l.k 0 2 && (inR l.c (-1) (n - 1) && inR l.t (-1) (n - 1))
def ctOk (m : Int) (c : Ct) : Bool := inR c.a 0 m && (decide (0 ≤ c.lo) && (decide (c.lo ≤ c.hi) && decide (c.hi ≤ 2000)))
def szK (l : Ln) : Int := if l.k = 0 then 2 else 1
def szC (n : Int) (l : Ln) : Int := if l.c = -1 then n else 1
def szT (n : Int) (l : Ln) : Int := if l.t = -1 then n else 1
def rdN (n : Int) (l : Ln) : Int := szK l * szC n l * szT n l
theorem rdN_bd {n : Int} (h1 : 1 ≤ n) (h4 : n ≤ 4) (l : Ln) : 1 ≤ rdN n l ∧ rdN n l ≤ 32 := by
  unfold rdN szK szC szT
  have : n = 1 ∨ n = 2 ∨ n = 3 ∨ n = 4 := by omega
  rcases this with rfl | rfl | rfl | rfl <;> split <;> split <;> split <;> omega
def prodP (n : Int) (ls : List Ln) : Int := ls.foldl (fun m l => m * rdN n l) 1
def manyR (n : Int) (ls : List Ln) : Int := ls.foldl (fun m l => min 5000 (m * rdN n l)) 1
theorem many_prodG {n : Int} (h1 : 1 ≤ n) (h4 : n ≤ 4) : ∀ (ls : List Ln) (p q : Int), 1 ≤ p → q = min 5000 p → ls.foldl (fun m l => min 5000 (m * rdN n l)) q = min 5000 (ls.foldl (fun m l => m * rdN n l) p) ∧ 1 ≤ ls.foldl (fun m l => m * rdN n l) p
  | [], p, q, hp, hq => ⟨hq, hp⟩
  | l :: ls, p, q, hp, hq => by
    obtain ⟨b1, b2⟩ := rdN_bd h1 h4 l
    have h0 : 1 ≤ p * rdN n l := by
      have := Int.mul_le_mul hp b1 (by omega) (by omega)
      omega
    refine many_prodG h1 h4 ls (p * rdN n l) (min 5000 (q * rdN n l)) h0 ?_
    by_cases h : p ≤ 5000
    · rw [hq, show min 5000 p = p by omega]
    · have e : q = 5000 := by omega
      have h2 : (5000 : Int) * 1 ≤ 5000 * rdN n l := Int.mul_le_mul (Int.le_refl _) b1 (by omega) (by omega)
      have h3 : (5000 : Int) * 1 ≤ p * rdN n l := Int.mul_le_mul (by omega) b1 (by omega) (by omega)
      rw [e]
      omega
theorem many_prod {n : Int} (h1 : 1 ≤ n) (h4 : n ≤ 4) (ls : List Ln) : manyR n ls = min 5000 (prodP n ls) ∧ 1 ≤ prodP n ls := many_prodG h1 h4 ls 1 1 (by omega) (by omega)
theorem prod_bdG {n : Int} (h1 : 1 ≤ n) (h4 : n ≤ 4) : ∀ (ls : List Ln) (p b : Int), 1 ≤ p → p ≤ b → ls.foldl (fun m l => m * rdN n l) p ≤ b * 32 ^ ls.length
  | [], p, b, _, h => by simpa using h
  | l :: ls, p, b, hp, h => by
    obtain ⟨b1, b2⟩ := rdN_bd h1 h4 l
    have h0 : 1 ≤ p * rdN n l := by
      have := Int.mul_le_mul hp b1 (by omega) (by omega)
      omega
    have h2 : p * rdN n l ≤ b * 32 := Int.mul_le_mul h b2 (by omega) (by omega)
    have := prod_bdG h1 h4 ls (p * rdN n l) (b * 32) h0 h2
    rw [List.length_cons, Int.pow_succ, show b * (32 ^ ls.length * 32) = b * 32 * 32 ^ ls.length by rw [Int.mul_assoc, Int.mul_comm 32]]
    exact this
def vldT (n coin box : Int) (ls : List Ln) (cs : List Ct) : Bool := inR n 1 4 && (inR coin 1 99 && (inR box 0 999 && (ls.all (lnOk n) && cs.all (ctOk ls.length))))
def faultT (n coin box : Int) (ls : List Ln) (cs : List Ct) : Int :=
  if 8 < ls.length ∨ 4 < cs.length then 3 else if vldT n coin box ls cs = true then (if 4096 < manyR n ls then 3 else 0) else 1
theorem fault_okT {n coin box : Int} {ls : List Ln} {cs : List Ct} (h : faultT n coin box ls cs = 0) : ls.length ≤ 8 ∧ cs.length ≤ 4 ∧ vldT n coin box ls cs = true ∧ manyR n ls ≤ 4096 := by
  unfold faultT at h
  split at h
  · cases h
  · split at h
    · split at h
      · cases h
      · exact ⟨by omega, by omega, by assumption, by omega⟩
    · cases h
def cOut (T : List Ln) (c : Int) : Nat → Int
  | 0 => -1
  | i + 1 => if (T.getD i default).c = c then (if (T.getD i default).k = 1 then (i : Int) else -1) else cOut T c i
def tOut (T : List Ln) (t : Int) : Nat → Int
  | 0 => -1
  | i + 1 => if (T.getD i default).t = t then (if (T.getD i default).k = 1 then (i : Int) else -1) else tOut T t i
theorem cOut_bd (T : List Ln) (c : Int) : ∀ i, -1 ≤ cOut T c i ∧ cOut T c i < i
  | 0 => by show -1 ≤ (-1 : Int) ∧ (-1 : Int) < 0; omega
  | i + 1 => by
    have := cOut_bd T c i
    unfold cOut
    split <;> try split
    all_goals omega
theorem tOut_bd (T : List Ln) (c : Int) : ∀ i, -1 ≤ tOut T c i ∧ tOut T c i < i
  | 0 => by show -1 ≤ (-1 : Int) ∧ (-1 : Int) < 0; omega
  | i + 1 => by
    have := tOut_bd T c i
    unfold tOut
    split <;> try split
    all_goals omega
def pos1 (T : List Ln) (i : Nat) : Bool := (decide (0 ≤ cOut T (T.getD i default).c i) == decide ((T.getD i default).k = 2)) && (decide (0 ≤ tOut T (T.getD i default).t i) == decide ((T.getD i default).k = 2))
def possB (T : List Ln) : Bool := (List.range T.length).all (pos1 T)
def monR (box coin : Int) (T : List Ln) : Nat → Int
  | 0 => box
  | i + 1 => if (T.getD i default).k = 1 then monR box coin T i + coin else monR box coin T i - coin
def mixR (T : List Ln) : Nat → Int
  | 0 => 0
  | i + 1 => mixR T i + if (T.getD i default).k = 2 ∧ cOut T (T.getD i default).c i ≠ tOut T (T.getD i default).t i then 1 else 0
theorem monR_bd {box coin : Int} {T : List Ln} (h1 : 0 ≤ box ∧ box ≤ 999) (h2 : 1 ≤ coin ∧ coin ≤ 99) : ∀ i : Nat, -99 * (i : Int) ≤ monR box coin T i ∧ monR box coin T i ≤ 999 + 99 * (i : Int)
  | 0 => by show -99 * 0 ≤ box ∧ box ≤ 999 + 99 * 0; omega
  | i + 1 => by
    have := monR_bd (T := T) h1 h2 i
    unfold monR
    split <;> omega
theorem mixR_bd {T : List Ln} : ∀ i : Nat, 0 ≤ mixR T i ∧ mixR T i ≤ i
  | 0 => by show (0 : Int) ≤ 0 ∧ (0 : Int) ≤ 0; omega
  | i + 1 => by
    have := mixR_bd (T := T) i
    unfold mixR
    split <;> omega
def rd1 (n : Int) (l x : Ln) : Bool := inR x.k 1 2 && (inR x.c 0 (n - 1) && (inR x.t 0 (n - 1) && agB l x))
def readB (n : Int) (ls T : List Ln) : Bool := decide (T.length = ls.length) && (List.range T.length).all fun i => rd1 n (ls.getD i default) (T.getD i default)
def cntB (box coin : Int) (cs : List Ct) (T : List Ln) : Bool := cs.all fun c => inR (monR box coin T c.a.toNat) c.lo c.hi
structure Mo where
  n : Int
  h : Nat → Int
  box : Int
  mix : Int
  last : Ln
instance : Inhabited Mo := ⟨⟨0, fun _ => 0, 0, 0, ⟨0, 0, 0⟩⟩⟩
def moD (m : Mo) : List D := [.i .i64 m.n, .i .i64 (m.h 0), .i .i64 (m.h 1), .i .i64 (m.h 2), .i .i64 (m.h 3), .i .i64 (m.h 4), .i .i64 (m.h 5), .i .i64 (m.h 6), .i .i64 (m.h 7), .i .i64 m.box, .i .i64 m.mix, .i .i64 m.last.k, .i .i64 m.last.c, .i .i64 m.last.t]
def upT (h : Nat → Int) (q : Nat) (v : Int) (i : Nat) : Int := if i = q then v else h i
def aftM (coin : Int) (m : Mo) (l : Ln) : Mo × Bool :=
  if l.k = 1 ∧ m.h l.c.toNat = 0 ∧ m.h (4 + l.t.toNat) = 0 then (⟨m.n + 1, upT (upT m.h l.c.toNat (m.n + 1)) (4 + l.t.toNat) (m.n + 1), m.box + coin, m.mix, l⟩, true)
  else if l.k = 2 ∧ m.h l.c.toNat ≠ 0 ∧ m.h (4 + l.t.toNat) ≠ 0 then (⟨m.n + 1, upT (upT m.h l.c.toNat 0) (4 + l.t.toNat) 0, m.box - coin, if m.h l.c.toNat ≠ m.h (4 + l.t.toNat) then m.mix + 1 else m.mix, l⟩, true)
  else (⟨m.n + 1, m.h, m.box, m.mix, l⟩, false)
def moR (box coin : Int) (T : List Ln) (i : Nat) : Mo := ⟨(i : Int), fun q => if q < 4 then cOut T (q : Int) i + 1 else tOut T ((q - 4 : Nat) : Int) i + 1, monR box coin T i, mixR T i, match i with
  | 0 => ⟨0, 0, 0⟩
  | i + 1 => T.getD i default⟩
theorem aft_pos {box coin : Int} {T : List Ln} {i : Nat} (hk : (T.getD i default).k = 1 ∨ (T.getD i default).k = 2) (hc : 0 ≤ (T.getD i default).c ∧ (T.getD i default).c ≤ 3) (ht : 0 ≤ (T.getD i default).t ∧ (T.getD i default).t ≤ 3) (hp : pos1 T i = true) : aftM coin (moR box coin T i) (T.getD i default) = (moR box coin T (i + 1), true) := by
  unfold pos1 at hp
  rw [Bool.and_eq_true, beq_iff_eq, beq_iff_eq] at hp
  obtain ⟨p1, p2⟩ := hp
  have hcN : (((T.getD i default).c.toNat : Nat) : Int) = (T.getD i default).c := by omega
  have htN : (((T.getD i default).t.toNat : Nat) : Int) = (T.getD i default).t := by omega
  have e1 : (moR box coin T i).h (T.getD i default).c.toNat = cOut T (T.getD i default).c i + 1 := by
    show (if (T.getD i default).c.toNat < 4 then _ else _) = _
    rw [if_pos (by omega), hcN]
  have e2 : (moR box coin T i).h (4 + (T.getD i default).t.toNat) = tOut T (T.getD i default).t i + 1 := by
    show (if 4 + (T.getD i default).t.toNat < 4 then _ else _) = _
    rw [if_neg (by omega), show 4 + (T.getD i default).t.toNat - 4 = (T.getD i default).t.toNat by omega, htN]
  have b1 := cOut_bd T (T.getD i default).c i
  have b2 := tOut_bd T (T.getD i default).t i
  have hext : ∀ v : Int, (∀ c : Int, cOut T c (i + 1) = if (T.getD i default).c = c then v - 1 else cOut T c i) → (∀ c : Int, tOut T c (i + 1) = if (T.getD i default).t = c then v - 1 else tOut T c i) → upT (upT (moR box coin T i).h (T.getD i default).c.toNat v) (4 + (T.getD i default).t.toNat) v = (moR box coin T (i + 1)).h := fun v h1 h2 => by
    funext q
    show (if q = 4 + (T.getD i default).t.toNat then v else if q = (T.getD i default).c.toNat then v else if q < 4 then cOut T (q : Int) i + 1 else tOut T ((q - 4 : Nat) : Int) i + 1) = if q < 4 then cOut T (q : Int) (i + 1) + 1 else tOut T ((q - 4 : Nat) : Int) (i + 1) + 1
    rw [h1, h2]
    by_cases hq : q < 4
    · rw [if_neg (show ¬ q = 4 + (T.getD i default).t.toNat by omega), if_pos hq, if_pos hq]
      by_cases hqc : q = (T.getD i default).c.toNat
      · rw [if_pos hqc, if_pos (by omega)]; omega
      · rw [if_neg hqc, if_neg (by omega)]
    · rw [if_neg hq, if_neg hq, if_neg (show ¬ q = (T.getD i default).c.toNat by omega)]
      by_cases hqt : q = 4 + (T.getD i default).t.toNat
      · rw [if_pos hqt, if_pos (by omega)]; omega
      · rw [if_neg hqt, if_neg (by omega)]
  unfold aftM
  rw [e1, e2]
  rcases hk with hk | hk
  · have q1 : ¬ 0 ≤ cOut T (T.getD i default).c i := by
      intro h; rw [decide_eq_true h, hk] at p1; cases p1
    have q2 : ¬ 0 ≤ tOut T (T.getD i default).t i := by
      intro h; rw [decide_eq_true h, hk] at p2; cases p2
    rw [if_pos ⟨hk, by omega, by omega⟩]
    have hh := hext ((i : Int) + 1) (fun c => by
      show (if _ then (if _ then _ else _) else _) = _
      rw [hk, if_pos rfl]
      congr 1; omega) (fun c => by
      show (if _ then (if _ then _ else _) else _) = _
      rw [hk, if_pos rfl]
      congr 1; omega)
    show ((⟨(i : Int) + 1, upT (upT (moR box coin T i).h _ ((i : Int) + 1)) _ ((i : Int) + 1), monR box coin T i + coin, mixR T i, T.getD i default⟩, true) : Mo × Bool) = _
    rw [hh]
    have m1 : monR box coin T (i + 1) = monR box coin T i + coin := by
      show (if _ then _ else _) = _
      rw [if_pos hk]
    have m2 : mixR T (i + 1) = mixR T i := by
      show mixR T i + (if _ then _ else _) = _
      rw [if_neg (by rw [hk]; intro h; omega)]; omega
    unfold moR
    simp only [m1, m2]
    rfl
  · have q1 : 0 ≤ cOut T (T.getD i default).c i := by
      refine Classical.byContradiction fun h => ?_
      rw [decide_eq_false h, hk] at p1; cases p1
    have q2 : 0 ≤ tOut T (T.getD i default).t i := by
      refine Classical.byContradiction fun h => ?_
      rw [decide_eq_false h, hk] at p2; cases p2
    rw [if_neg (fun h => by omega), if_pos ⟨hk, by omega, by omega⟩]
    have hh := hext 0 (fun c => by
      show (if _ then (if _ then _ else _) else _) = _
      by_cases hcc : (T.getD i default).c = c
      · rw [if_pos hcc, if_neg (by rw [hk]; decide), if_pos hcc]; rfl
      · rw [if_neg hcc, if_neg hcc]) (fun c => by
      show (if _ then (if _ then _ else _) else _) = _
      by_cases hcc : (T.getD i default).t = c
      · rw [if_pos hcc, if_neg (by rw [hk]; decide), if_pos hcc]; rfl
      · rw [if_neg hcc, if_neg hcc])
    show ((⟨(i : Int) + 1, upT (upT (moR box coin T i).h _ 0) _ 0, monR box coin T i - coin, (if cOut T _ i + 1 ≠ tOut T _ i + 1 then mixR T i + 1 else mixR T i), T.getD i default⟩, true) : Mo × Bool) = _
    rw [hh]
    have m1 : monR box coin T (i + 1) = monR box coin T i - coin := by
      show (if _ then _ else _) = _
      rw [if_neg (by rw [hk]; decide)]
    have m2 : mixR T (i + 1) = if cOut T (T.getD i default).c i + 1 ≠ tOut T (T.getD i default).t i + 1 then mixR T i + 1 else mixR T i := by
      show mixR T i + (if _ then _ else _) = _
      by_cases h : cOut T (T.getD i default).c i = tOut T (T.getD i default).t i
      · rw [if_neg (fun h' => h'.2 h), if_neg (fun h' => h' (by omega))]; omega
      · rw [if_pos ⟨hk, h⟩, if_pos (by omega)]
    unfold moR
    simp only [m1, m2]
    rfl
theorem aft_no {box coin : Int} {T : List Ln} {i : Nat} (hk : (T.getD i default).k = 1 ∨ (T.getD i default).k = 2) (hc : 0 ≤ (T.getD i default).c ∧ (T.getD i default).c ≤ 3) (ht : 0 ≤ (T.getD i default).t ∧ (T.getD i default).t ≤ 3) (hp : pos1 T i = false) : (aftM coin (moR box coin T i) (T.getD i default)).2 = false := by
  have hcN : (((T.getD i default).c.toNat : Nat) : Int) = (T.getD i default).c := by omega
  have htN : (((T.getD i default).t.toNat : Nat) : Int) = (T.getD i default).t := by omega
  have e1 : (moR box coin T i).h (T.getD i default).c.toNat = cOut T (T.getD i default).c i + 1 := by
    show (if (T.getD i default).c.toNat < 4 then _ else _) = _
    rw [if_pos (by omega), hcN]
  have e2 : (moR box coin T i).h (4 + (T.getD i default).t.toNat) = tOut T (T.getD i default).t i + 1 := by
    show (if 4 + (T.getD i default).t.toNat < 4 then _ else _) = _
    rw [if_neg (by omega), show 4 + (T.getD i default).t.toNat - 4 = (T.getD i default).t.toNat by omega, htN]
  have b1 := cOut_bd T (T.getD i default).c i
  have b2 := tOut_bd T (T.getD i default).t i
  unfold aftM
  rw [e1, e2]
  have hn : ¬ (decide (0 ≤ cOut T (T.getD i default).c i) = decide ((T.getD i default).k = 2) ∧ decide (0 ≤ tOut T (T.getD i default).t i) = decide ((T.getD i default).k = 2)) := fun h => by
    have : pos1 T i = true := by
      unfold pos1
      rw [h.1, h.2]; simp
    rw [this] at hp; cases hp
  split
  · rename_i h
    exact absurd ⟨by rw [decide_eq_false (by omega), decide_eq_false (by omega)], by rw [decide_eq_false (by omega), decide_eq_false (by omega)]⟩ hn
  · split
    · rename_i h
      exact absurd ⟨by rw [decide_eq_true (by omega), decide_eq_true (by omega)], by rw [decide_eq_true (by omega), decide_eq_true (by omega)]⟩ hn
    · rfl
end Go.Ev
