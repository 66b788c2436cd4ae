import Derived.Test.YtjgbfnciedkafaaEvUJi
import Derived.Test.YtjgbfnciedkafaaEvUJ4
import Derived.Test.YtjgbfnciedkafaaEvUJs
import Derived.Test.YtjgbfnciedkafaaEvUJb
import Derived.Test.YtjgbfnciedkafaaEvUGd
import Derived.Test.YtjgbfnciedkafaaEvUGf
import Derived.Test.YtjgbfnciedkafaaEvUGk
import Derived.Test.YtjgbfnciedkafaaEvUOc
import Derived.Test.YtjgbfnciedkafaaEvUIt
set_option linter.all false
namespace Go.Ev
open Go.Proofs
set_option maxRecDepth 100000
theorem mem_tkL {n : Int} {l x : Ln} {i j : Int} : ∀ k : Nat, x ∈ tkL n l i j k ↔ (x.k = i ∧ x.c = j ∧ (0 ≤ x.t ∧ x.t < (k : Int)) ∧ agB l x = true)
  | 0 => by
    unfold tkL
    constructor
    · intro h; cases h
    · rintro ⟨_, _, h, _⟩; exact absurd h (by omega)
  | k + 1 => by
    unfold tkL
    rw [List.mem_append, mem_tkL k]
    constructor
    · rintro (⟨h1, h2, h3, h4⟩ | h)
      · exact ⟨h1, h2, by omega, h4⟩
      · cases ha : agB l ⟨i, j, (k : Int)⟩ with
        | false => rw [ha] at h; cases h
        | true =>
          rw [ha, cond_true, List.mem_singleton] at h
          subst h
          exact ⟨rfl, rfl, ⟨by show (0 : Int) ≤ (k : Int); omega, by show (k : Int) < ((k + 1 : Nat) : Int); omega⟩, ha⟩
    · obtain ⟨xk, xc, xt⟩ := x
      rintro ⟨h1, h2, h3, h4⟩
      have h1 : xk = i := h1
      have h2 : xc = j := h2
      have h3 : 0 ≤ xt ∧ xt < ((k + 1 : Nat) : Int) := h3
      by_cases h : xt < (k : Int)
      · exact .inl ⟨h1, h2, ⟨h3.1, h⟩, h4⟩
      · right
        have : xt = (k : Int) := by omega
        subst h1 h2 this
        rw [h4, cond_true]
        exact List.mem_singleton.2 rfl
theorem mem_chL3 {n : Int} {l x : Ln} {i : Int} : ∀ k : Nat, x ∈ chL3 n l i k ↔ (x.k = i ∧ (0 ≤ x.c ∧ x.c < (k : Int)) ∧ (0 ≤ x.t ∧ x.t < (n.toNat : Int)) ∧ agB l x = true)
  | 0 => by
    unfold chL3
    constructor
    · intro h; cases h
    · rintro ⟨_, h, _, _⟩; exact absurd h (by omega)
  | k + 1 => by
    unfold chL3
    rw [List.mem_append, mem_chL3 k, mem_tkL]
    constructor
    · rintro (⟨h1, h2, h3, h4⟩ | ⟨h1, h2, h3, h4⟩)
      · exact ⟨h1, by omega, h3, h4⟩
      · exact ⟨h1, by omega, h3, h4⟩
    · rintro ⟨h1, h2, h3, h4⟩
      by_cases h : x.c < (k : Int)
      · exact .inl ⟨h1, ⟨h2.1, h⟩, h3, h4⟩
      · exact .inr ⟨h1, by omega, h3, h4⟩
theorem mem_readL {n : Int} {l x : Ln} (hn : 0 ≤ n) : x ∈ readL n l ↔ rd1 n l x = true := by
  unfold readL
  show x ∈ ([] ++ chL3 n l (((0 : Nat) : Int) + 1) n.toNat) ++ chL3 n l (((1 : Nat) : Int) + 1) n.toNat ↔ _
  rw [List.nil_append, List.mem_append, mem_chL3, mem_chL3]
  unfold rd1
  rw [Bool.and_eq_true, Bool.and_eq_true, Bool.and_eq_true, inR_iff, inR_iff, inR_iff]
  constructor
  · rintro (⟨h1, h2, h3, h4⟩ | ⟨h1, h2, h3, h4⟩)
    · exact ⟨by omega, by omega, by omega, h4⟩
    · exact ⟨by omega, by omega, by omega, h4⟩
  · rintro ⟨h1, h2, h3, h4⟩
    have : x.k = 1 ∨ x.k = 2 := by omega
    rcases this with h | h
    · exact .inl ⟨by omega, by omega, by omega, h4⟩
    · exact .inr ⟨by omega, by omega, by omega, h4⟩
abbrev rdK (n : Int) (ls : List Ln) (i : Nat) : List Ln := readL n (ls.getD i default)
def divF (n : Int) (ls : List Ln) (m : Nat) : Nat → Nat
  | 0 => m
  | i + 1 => divF n ls m i / (rdK n ls i).length
def nthF (n : Int) (ls : List Ln) (m : Nat) : Nat → List Ln
  | 0 => []
  | i + 1 => nthF n ls m i ++ [(rdK n ls i).getD (divF n ls m i % (rdK n ls i).length) default]
def nthL (n : Int) (ls : List Ln) (m : Nat) : List Ln := nthF n ls m ls.length
def pF (n : Int) (ls : List Ln) : Nat → Nat
  | 0 => 1
  | i + 1 => pF n ls i * (rdK n ls i).length
theorem nthF_len (n : Int) (ls : List Ln) (m : Nat) : ∀ i, (nthF n ls m i).length = i
  | 0 => rfl
  | i + 1 => by
    unfold nthF
    rw [List.length_append, nthF_len n ls m i]; rfl
theorem nthF_at (n : Int) (ls : List Ln) (m : Nat) : ∀ {i j : Nat}, j < i → (nthF n ls m i).getD j default = (rdK n ls j).getD (divF n ls m j % (rdK n ls j).length) default
  | 0, _, h => absurd h (Nat.not_lt_zero _)
  | i + 1, j, h => by
    unfold nthF
    have hl := nthF_len n ls m i
    by_cases e : j = i
    · subst e
      have := app_last (nthF n ls m j) ((rdK n ls j).getD (divF n ls m j % (rdK n ls j).length) default)
      rw [hl] at this
      exact this
    · have := SameTo.app (nthF n ls m i) ((rdK n ls i).getD (divF n ls m i % (rdK n ls i).length) default) j (by rw [hl]; omega)
      rw [this]
      exact nthF_at n ls m (by omega)
theorem divF_eq (n : Int) (ls : List Ln) (m : Nat) : ∀ i, divF n ls m i = m / pF n ls i
  | 0 => by
    show m = m / 1
    rw [Nat.div_one]
  | i + 1 => by
    unfold divF pF
    rw [divF_eq n ls m i, Nat.div_div_eq_div_mul]
theorem rdK_len {B : Bk} (V : VB B) {i : Nat} (h : i < B.ls.length) : ((rdK B.n B.ls i).length : Int) = rdN B.n (B.ls.getD i default) ∧ 1 ≤ (rdK B.n B.ls i).length ∧ (rdK B.n B.ls i).length ≤ 32 := by
  have h1 := read_len V.n (List.all_eq_true.1 V.ls _ (getD_mem (d := default) h))
  have h2 := rdN_bd V.n.1 V.n.2 (B.ls.getD i default)
  have h1 : ((rdK B.n B.ls i).length : Int) = rdN B.n (B.ls.getD i default) := h1
  exact ⟨h1, by omega, by omega⟩
theorem pF_pos {B : Bk} (V : VB B) : ∀ i, i ≤ B.ls.length → 1 ≤ pF B.n B.ls i
  | 0, _ => Nat.le_refl _
  | i + 1, h => by
    have h1 := pF_pos V i (by omega)
    have h2 := (rdK_len V (i := i) (by omega)).2.1
    unfold pF
    exact Nat.mul_pos h1 h2
theorem pF_prod {B : Bk} (V : VB B) : ∀ i, i ≤ B.ls.length → (pF B.n B.ls i : Int) = prodP B.n (B.ls.take i)
  | 0, _ => rfl
  | i + 1, h => by
    have h1 := pF_prod V i (by omega)
    have h2 := (rdK_len V (i := i) (by omega)).1
    have h3 : prodP B.n (B.ls.take (i + 1)) = prodP B.n (B.ls.take i) * rdN B.n (B.ls.getD i default) := foldl_takeJ _ _ (by omega)
    unfold pF
    rw [h3, ← h1, ← h2, Int.natCast_mul]
theorem pF_dvd (n : Int) (ls : List Ln) {q : Nat} : ∀ {i : Nat}, q < i → ∃ K, pF n ls i = pF n ls q * ((rdK n ls q).length * K)
  | 0, h => absurd h (Nat.not_lt_zero _)
  | i + 1, h => by
    by_cases e : q = i
    · subst e
      exact ⟨1, by rw [Nat.mul_one]; rfl⟩
    · obtain ⟨K, hK⟩ := pF_dvd n ls (show q < i by omega)
      refine ⟨K * (rdK n ls i).length, ?_⟩
      show pF n ls i * (rdK n ls i).length = _
      rw [hK, Nat.mul_assoc, Nat.mul_assoc]
theorem nthF_cong {n : Int} {ls : List Ln} {m m' : Nat} : ∀ i, (∀ q, q < i → divF n ls m' q % (rdK n ls q).length = divF n ls m q % (rdK n ls q).length) → nthF n ls m' i = nthF n ls m i
  | 0, _ => rfl
  | i + 1, h => by
    unfold nthF
    rw [nthF_cong i (fun q hq => h q (by omega)), h i (by omega)]
theorem nth_mem {B : Bk} (V : VB B) {X : List Ln} (hl : X.length = B.ls.length) (hX : ∀ i, i < X.length → X.getD i default ∈ rdK B.n B.ls i) : ∀ i, i ≤ B.ls.length → ∃ m, m < pF B.n B.ls i ∧ nthF B.n B.ls m i = X.take i
  | 0, _ => ⟨0, Nat.one_pos, rfl⟩
  | i + 1, h => by
    obtain ⟨m, hm, he⟩ := nth_mem V hl hX i (by omega)
    obtain ⟨k, hk, hg⟩ := List.getElem_of_mem (hX i (show i < X.length by omega))
    have hP := pF_pos V i (by omega)
    have hdiv : (m + pF B.n B.ls i * k) / pF B.n B.ls i = k := by
      rw [Nat.add_mul_div_left _ _ hP, Nat.div_eq_of_lt hm, Nat.zero_add]
    refine ⟨m + pF B.n B.ls i * k, ?_, ?_⟩
    · show m + pF B.n B.ls i * k < pF B.n B.ls i * (rdK B.n B.ls i).length
      have : pF B.n B.ls i * (k + 1) ≤ pF B.n B.ls i * (rdK B.n B.ls i).length := Nat.mul_le_mul_left _ hk
      rw [Nat.mul_add, Nat.mul_one] at this
      omega
    · rw [take_succ_getD (d := default) (show i < X.length by omega)]
      show nthF B.n B.ls _ i ++ [_] = _
      have hc : nthF B.n B.ls (m + pF B.n B.ls i * k) i = nthF B.n B.ls m i := nthF_cong i fun q hq => by
        obtain ⟨K, hK⟩ := pF_dvd B.n B.ls hq
        have hPq : 0 < pF B.n B.ls q := pF_pos V q (Nat.le_trans (Nat.le_of_lt hq) (Nat.le_of_succ_le h))
        rw [divF_eq, divF_eq, hK, Nat.mul_assoc, Nat.add_mul_div_left _ _ hPq, Nat.mul_assoc, Nat.add_mul_mod_self_left]
      rw [hc, he, divF_eq, hdiv, Nat.mod_eq_of_lt hk]
      congr 2
      rw [← hg]
      simp [List.getD, hk]
def tBad (box coin : Int) (cs : List Ct) (T : List Ln) : Bool := possB T && cntB box coin cs T
def allN3 (n : Int) (ls : List Ln) : List (List Ln) := (List.range (manyR n ls).toNat).map (nthL n ls)
def refT (B : Bk) : List (List Ln) := (allN3 B.n B.ls).filter (tBad B.box B.coin B.cs)
theorem nth_read {B : Bk} (V : VB B) (m : Nat) : readB B.n B.ls (nthL B.n B.ls m) = true := by
  unfold readB
  rw [Bool.and_eq_true, decide_eq_true_iff, List.all_eq_true]
  have hl : (nthL B.n B.ls m).length = B.ls.length := nthF_len _ _ _ _
  refine ⟨hl, fun i hi => ?_⟩
  have hi : i < B.ls.length := by rw [← hl]; exact List.mem_range.1 hi
  rw [← mem_readL (by have := V.n; omega)]
  have h2 := (rdK_len V hi).2.1
  have : (nthL B.n B.ls m).getD i default = _ := nthF_at _ _ _ hi
  rw [this]
  exact getD_mem (Nat.mod_lt _ h2)
theorem mem_allN3 {B : Bk} (V : VB B) {X : List Ln} : X ∈ allN3 B.n B.ls ↔ readB B.n B.ls X = true := by
  unfold allN3
  rw [List.mem_map]
  constructor
  · rintro ⟨m, _, rfl⟩
    exact nth_read V m
  · intro h
    have hm : (pF B.n B.ls B.ls.length : Int) = manyR B.n B.ls := by
      have h1 := pF_prod V B.ls.length (Nat.le_refl _)
      rw [List.take_length] at h1
      have h2 := many_prod V.n.1 V.n.2 B.ls
      have h3 := V.many
      omega
    unfold readB at h
    rw [Bool.and_eq_true, decide_eq_true_iff, List.all_eq_true] at h
    obtain ⟨hl, h⟩ := h
    obtain ⟨m, h1, h2⟩ := nth_mem V hl (fun i hi => by
      rw [mem_readL (by have := V.n; omega)]
      exact h i (List.mem_range.2 hi)) B.ls.length (Nat.le_refl _)
    refine ⟨m, List.mem_range.2 (by omega), ?_⟩
    show nthF _ _ _ _ = _
    rw [h2, List.take_of_length_le (by omega)]
theorem mem_refT {B : Bk} (V : VB B) {X : List Ln} : X ∈ refT B ↔ fitsB B.n B.coin B.box B.ls B.cs X = true := by
  unfold refT fitsB
  rw [List.mem_filter, mem_allN3 V, Bool.and_eq_true (readB _ _ _)]
  rfl
theorem refT_ext {B : Bk} (V : VB B) {X : List Ln} : X ∈ refT B ↔ X ∈ exT B B.ls.length [] := by
  rw [mem_refT V, mem_exT, ext_fits V]
theorem refT_len {B : Bk} (V : VB B) {X : List Ln} (h : X ∈ refT B) : X.length = B.ls.length := by
  rw [mem_refT V] at h
  unfold fitsB readB at h
  rw [Bool.and_eq_true, Bool.and_eq_true, decide_eq_true_iff] at h
  exact h.1.1
end Go.Ev

namespace Go.Ev
open Go.Proofs
set_option maxRecDepth 100000
end Go.Ev

namespace Go.Ev
open Go.Proofs
set_option maxRecDepth 100000
def tlD (X : List Ln) : List D := [.lst 3 (rows lnD X)]
theorem pu_tl (L : List (List Ln)) : PuE (rows tlD L) := pu_rows (fun x => by simp [tlD, PuL, Pu, pu_ln]) L
section
variable (n coin box : Int) (ls : List Ln) (cs : List Ct)
end
theorem hasB_nil {B : Bk} (V : VB B) : hasB B = true ↔ refT B ≠ [] := by
  unfold hasB
  rw [can_iff]
  constructor
  · rintro ⟨X, h⟩ he
    have := (refT_ext V).2 (mem_exT.2 h)
    rw [he] at this; cases this
  · intro h
    obtain ⟨X, s, hs⟩ := List.exists_cons_of_ne_nil h
    have : X ∈ refT B := by rw [hs]; exact List.mem_cons_self
    exact ⟨X, mem_exT.1 ((refT_ext V).1 this)⟩
end Go.Ev

namespace Go.Ev
open Go.Proofs
set_option maxRecDepth 100000
theorem foldl_minJ : ∀ (L : List Int) (a : Int), L.foldl min a ≤ a ∧ (∀ x ∈ L, L.foldl min a ≤ x) ∧ (L.foldl min a = a ∨ L.foldl min a ∈ L)
  | [], a => ⟨Int.le_refl _, fun x h => absurd h (by simp), .inl rfl⟩
  | y :: L, a => by
    obtain ⟨h1, h2, h3⟩ := foldl_minJ L (min a y)
    refine ⟨by show L.foldl min (min a y) ≤ a; omega, fun x hx => ?_, ?_⟩
    · show L.foldl min (min a y) ≤ x
      rcases List.mem_cons.1 hx with rfl | hx
      · omega
      · exact h2 x hx
    · show L.foldl min (min a y) = a ∨ L.foldl min (min a y) ∈ y :: L
      rcases h3 with h3 | h3
      · by_cases h : a ≤ y
        · left; omega
        · right; rw [h3, show min a y = y by omega]; exact List.mem_cons_self
      · exact .inr (List.mem_cons_of_mem _ h3)
theorem foldl_maxJ : ∀ (L : List Int) (a : Int), a ≤ L.foldl max a ∧ (∀ x ∈ L, x ≤ L.foldl max a) ∧ (L.foldl max a = a ∨ L.foldl max a ∈ L)
  | [], a => ⟨Int.le_refl _, fun x h => absurd h (by simp), .inl rfl⟩
  | y :: L, a => by
    obtain ⟨h1, h2, h3⟩ := foldl_maxJ L (max a y)
    refine ⟨by show a ≤ L.foldl max (max a y); omega, fun x hx => ?_, ?_⟩
    · show x ≤ L.foldl max (max a y)
      rcases List.mem_cons.1 hx with rfl | hx
      · omega
      · exact h2 x hx
    · show L.foldl max (max a y) = a ∨ L.foldl max (max a y) ∈ y :: L
      rcases h3 with h3 | h3
      · by_cases h : y ≤ a
        · left; omega
        · right; rw [h3, show max a y = y by omega]; exact List.mem_cons_self
      · exact .inr (List.mem_cons_of_mem _ h3)
theorem getD0_mem {A : List Int} (h : A ≠ []) : A.getD 0 0 ∈ A := getD_mem (by cases A with | nil => exact absurd rfl h | cons a s => simp)
theorem ans_ne {B : Bk} {aft : Nat} {ak : Mo → Int} (h : exT B B.ls.length [] ≠ []) : ansL B aft ak ≠ [] := by
  unfold ansL
  intro he
  exact h (List.map_eq_nil_iff.1 he)
end Go.Ev

namespace Go.Ev
open Go.Proofs
set_option maxRecDepth 100000
def cP (m : Nat) (c : Int) (t : List Ln) : Bool := decide (0 ≤ cOut t c m)
theorem sE_false {n coin box : Int} {ls : List Ln} {cs : List Ct} (h : faultT n coin box ls cs = 0) (hb : hasB (B5 n coin box ls cs) = false) : sE n coin box ls cs true = 11 := by unfold sE; rw [if_neg (fun k => k h), hb]; rfl
theorem sE_true {n coin box : Int} {ls : List Ln} {cs : List Ct} (h : faultT n coin box ls cs = 0) (hb : hasB (B5 n coin box ls cs) = true) : sE n coin box ls cs true = 0 := by unfold sE; rw [if_neg (fun k => k h), hb]; rfl
end Go.Ev

namespace Go.Ev
open Go.Proofs
set_option maxRecDepth 100000
theorem ln_dec (x r : Ln) : decide ([x.k, x.c, x.t] = [r.k, r.c, r.t]) = decide (x = r) := by
  obtain ⟨a, b, c⟩ := x
  obtain ⟨d, e, f⟩ := r
  rw [Bool.eq_iff_iff, decide_eq_true_iff, decide_eq_true_iff]
  simp [Ln.mk.injEq]
theorem WSt.eqLn {sl : T D} {ob : T C} {nx : Pos} {K : X → Prop} {lg : Option (T Bool)} {d : Pos} {x y : RX} {neg : Bool} (a b : Ln) (h1 : opd sl x = some (.ag (lnD a))) (h2 : opd sl y = some (.ag (lnD b))) (ha : lnWf a) (hb : lnWf b) {r : Bool} (hr : (bif neg then !decide (a = b) else decide (a = b)) = r) (k : wOut sl ob nx lg d K (.b r)) : WSt (.eqr d neg [.i .i64, .i .i64, .i .i64] x y) ⟨sl, ob, nx, lg⟩ K :=
  WSt.eqrN [a.k, a.c, a.t] [b.k, b.c, b.t] h1 h2 rfl rfl (by intro y hy; simp only [List.mem_cons, List.not_mem_nil, or_false] at hy; rcases hy with rfl | rfl | rfl; exact ha.1; exact ha.2.1; exact ha.2.2) (by intro y hy; simp only [List.mem_cons, List.not_mem_nil, or_false] at hy; rcases hy with rfl | rfl | rfl; exact hb.1; exact hb.2.1; exact hb.2.2) (by rw [ln_dec]; exact hr) k
section
variable (n coin box : Int) (ls : List Ln) (cs : List Ct) (L : List (List Ln)) (line : Nat) (R : List Ln)
end
end Go.Ev

namespace Go.Ev
open Go.Proofs
set_option maxRecDepth 1000000
def p126 : Pos := .o p63
def p127 : Pos := .i p63
def p128 : Pos := .o p64
def p129 : Pos := .i p64
def p130 : Pos := .o p65
def p131 : Pos := .i p65
def p132 : Pos := .o p66
def p133 : Pos := .i p66
def p134 : Pos := .o p67
def p146 : Pos := .o p73
def p147 : Pos := .i p73
def p148 : Pos := .o p74
def p149 : Pos := .i p74
def p150 : Pos := .o p75
def p151 : Pos := .i p75
def p152 : Pos := .o p76
def p153 : Pos := .i p76
def p154 : Pos := .o p77
def p155 : Pos := .i p77
def p162 : Pos := .o p81
def p163 : Pos := .i p81
def p164 : Pos := .o p82
def p166 : Pos := .o p83
def p167 : Pos := .i p83
def p168 : Pos := .o p84
def p169 : Pos := .i p84
def p170 : Pos := .o p85
def p171 : Pos := .i p85
def p172 : Pos := .o p86
def p173 : Pos := .i p86
def p174 : Pos := .o p87
def p175 : Pos := .i p87
def p176 : Pos := .o p88
def p177 : Pos := .i p88
def p178 : Pos := .o p89
def p179 : Pos := .i p89
def p180 : Pos := .o p90
def p181 : Pos := .i p90
def p182 : Pos := .o p91
def p183 : Pos := .i p91
def p184 : Pos := .o p92
def p185 : Pos := .i p92
def p186 : Pos := .o p93
def p187 : Pos := .i p93
def p188 : Pos := .o p94
def p189 : Pos := .i p94
def p190 : Pos := .o p95
noncomputable def rc54 : RC := (.seq (.reg [(.u (.box p2 (.t p1))), (.u (.mv p3 (.k (.b false))))]) (.seq (.reg [(.u (.ldn p4 (.t p2) 5)), (.u (.cf (some p5) p21 [(.t p4)])), (.u (.mv p6 (.t p5))), (.g p6 true (some p7) (.ldn p7 (.t p2) 5)), (.g p6 true (some p8) (.cf (some p8) p70 [(.t p7)])), (.g p6 true (some p9) (.bin p9 .eql (.t p8) (.k (.i .i64 0)))), (.u (.pick p10 (.t p6) (.t p9) (.k (.b false)))), (.u (.mv p3 (.t p10)))]) .ret))
def rs54 : List RR := [(.t p3)]
theorem fn54 : FnOk Try.prog p55.ix 10 rc54 rs54 := ⟨Try.f54, bodyC Try.f54, Try.func54, by kernel_rfl, by kernel_rfl, by kernel_rfl, by kernel_rfl, by kernel_rfl⟩
noncomputable def rc59 : RC := (.seq (.reg [(.u (.box p4 (.t p2))), (.u (.mv p5 (.k (.b false))))]) (.seq (.seq (.reg [(.u (.mv p6 (.k (.i .i64 0))))]) (.blk 0 (.loop (.seq (.seq (.reg [(.u (.mv p7 (.t p6))), (.u (.mv p8 (.t p1))), (.u (.len p9 (.t p8))), (.u (.bin p10 .lss (.t p7) (.t p9)))]) (.cond (.t p10) .skip (.exit 0))) (.seq (.blk 1 (.seq (.drw [(.u (.mv p13 (.t p1))), (.u (.mv p14 (.t p6))), (.u (.ixs p15 3 (.t p13) (.t p14))), (.u (.ldn p16 (.t p15) 3)), (.u (.fad p17 (.t p4) 0)), (.u (.ld1 p18 (.t p17))), (.u (.fad p19 (.t p4) 1)), (.u (.ld1 p20 (.t p19))), (.u (.fad p21 (.t p4) 2)), (.u (.ld1 p22 (.t p21))), (.u (.bld p23 [(.i .i64 0), (.i .i64 0), (.i .i64 0)] [(0, (1, (.t p18))), (1, (1, (.t p20))), (2, (1, (.t p22)))])), (.u (.eqr p24 false [(.i .i64), (.i .i64), (.i .i64)] (.t p16) (.t p23)))] [0, 0, 3, 7, 0, 16, 0, 64, 0, 256, 1008, 2047]) (.cond (.t p24) (.seq (.reg [(.u (.mv p5 (.k (.b true))))]) .ret) .skip))) (.reg [(.u (.mv p11 (.t p6))), (.u (.bin p12 .add (.t p11) (.k (.i .i64 1)))), (.u (.mv p6 (.t p12)))])))))) (.seq (.reg [(.u (.mv p5 (.k (.b false))))]) .ret)))
def rs59 : List RR := [(.t p5)]
theorem fn59 : FnOk Try.prog p60.ix 24 rc59 rs59 := ⟨Try.f59, bodyC Try.f59, Try.func59, by kernel_rfl, by kernel_rfl, by kernel_rfl, by kernel_rfl, by kernel_rfl⟩
noncomputable def rc63 : RC := (.seq (.reg [(.u (.box p5 (.t p1))), (.u (.box p6 (.t p2))), (.u (.mv p9 (.k (.b false))))]) (.seq (.reg [(.u (.ldn p27 (.t p5) 5)), (.u (.cf (some p28) p24 [(.t p27)])), (.u (.mv p29 (.t p3))), (.u (.cf (some p30) p39 [(.t p28), (.t p29)])), (.u (.mv p26 (.t p30))), (.u (.ext p31 (.t p26) 0)), (.u (.ext p32 (.t p26) 1)), (.u (.new p10 [(.i .i64 0), (.i .i64 0)])), (.u (.st (.t p10) (.t p31) 2)), (.u (.mv p11 (.t p32)))]) (.seq (.reg [(.u (.ldn p34 (.t p6) 5)), (.u (.cf (some p35) p24 [(.t p34)])), (.u (.mv p36 (.t p3))), (.u (.cf (some p37) p39 [(.t p35), (.t p36)])), (.u (.mv p33 (.t p37))), (.u (.ext p38 (.t p33) 0)), (.u (.ext p39 (.t p33) 1)), (.u (.new p12 [(.i .i64 0), (.i .i64 0)])), (.u (.st (.t p12) (.t p38) 2)), (.u (.mv p13 (.t p39)))]) (.seq (.reg [(.u (.ldn p41 (.t p5) 5)), (.u (.cf (some p42) p24 [(.t p41)])), (.u (.mv p43 (.t p3))), (.u (.cf (some p44) p34 [(.t p42), (.t p43)])), (.u (.mv p40 (.t p44))), (.u (.ext p45 (.t p40) 0)), (.u (.ext p46 (.t p40) 1)), (.u (.ext p47 (.t p40) 2)), (.u (.mv p14 (.t p45))), (.u (.mv p15 (.t p46))), (.u (.mv p16 (.t p47)))]) (.seq (.reg [(.u (.ldn p49 (.t p6) 5)), (.u (.cf (some p50) p24 [(.t p49)])), (.u (.mv p51 (.t p3))), (.u (.cf (some p52) p34 [(.t p50), (.t p51)])), (.u (.mv p48 (.t p52))), (.u (.ext p53 (.t p48) 0)), (.u (.ext p54 (.t p48) 1)), (.u (.ext p55 (.t p48) 2)), (.u (.mv p17 (.t p53))), (.u (.mv p18 (.t p54))), (.u (.mv p19 (.t p55)))]) (.seq (.seq (.reg [(.u (.mv p56 (.t p11))), (.u (.bin p57 .neq (.t p56) (.k (.i .i64 0)))), (.u (.mv p58 (.t p57))), (.g p58 false (some p59) (.mv p59 (.t p13))), (.g p58 false (some p60) (.bin p60 .neq (.t p59) (.k (.i .i64 0)))), (.u (.pick p61 (.t p58) (.k (.b true)) (.t p60))), (.u (.mv p62 (.t p61))), (.g p62 false (some p63) (.ldn p63 (.t p10) 2)), (.g p62 false (some p64) (.ldn p64 (.t p12) 2)), (.g p62 false (some p65) (.cf (some p65) p98 [(.t p63), (.t p64)])), (.g p62 false (some p66) (.un p66 .not (.t p65))), (.u (.pick p67 (.t p62) (.k (.b true)) (.t p66))), (.u (.mv p68 (.t p67))), (.g p68 false (some p69) (.mv p69 (.t p16))), (.g p68 false (some p70) (.bin p70 .neq (.t p69) (.k (.i .i64 0)))), (.u (.pick p71 (.t p68) (.k (.b true)) (.t p70))), (.u (.mv p72 (.t p71))), (.g p72 false (some p73) (.mv p73 (.t p19))), (.g p72 false (some p74) (.bin p74 .neq (.t p73) (.k (.i .i64 0)))), (.u (.pick p75 (.t p72) (.k (.b true)) (.t p74))), (.u (.mv p76 (.t p75))), (.g p76 false (some p77) (.mv p77 (.t p14))), (.g p76 false (some p78) (.len p78 (.t p77))), (.g p76 false (some p79) (.fad p79 (.t p6) 0)), (.g p76 false (some p80) (.ld1 p80 (.t p79))), (.g p76 false (some p81) (.bin p81 .neq (.t p78) (.t p80))), (.u (.pick p82 (.t p76) (.k (.b true)) (.t p81))), (.u (.mv p83 (.t p82))), (.g p83 false (some p84) (.mv p84 (.t p15))), (.g p83 false (some p85) (.len p85 (.t p84))), (.g p83 false (some p86) (.fad p86 (.t p6) 0)), (.g p83 false (some p87) (.ld1 p87 (.t p86))), (.g p83 false (some p88) (.bin p88 .neq (.t p85) (.t p87))), (.u (.pick p89 (.t p83) (.k (.b true)) (.t p88))), (.u (.mv p90 (.t p89))), (.g p90 false (some p91) (.mv p91 (.t p17))), (.g p90 false (some p92) (.len p92 (.t p91))), (.g p90 false (some p93) (.fad p93 (.t p6) 0)), (.g p90 false (some p94) (.ld1 p94 (.t p93))), (.g p90 false (some p95) (.bin p95 .neq (.t p92) (.t p94))), (.u (.pick p96 (.t p90) (.k (.b true)) (.t p95))), (.u (.mv p97 (.t p96))), (.g p97 false (some p98) (.mv p98 (.t p18))), (.g p97 false (some p99) (.len p99 (.t p98))), (.g p97 false (some p100) (.fad p100 (.t p6) 0)), (.g p97 false (some p101) (.ld1 p101 (.t p100))), (.g p97 false (some p102) (.bin p102 .neq (.t p99) (.t p101))), (.u (.pick p103 (.t p97) (.k (.b true)) (.t p102)))]) (.cond (.t p103) (.seq (.reg [(.u (.mv p9 (.k (.b false))))]) .ret) .skip)) (.seq (.seq (.reg [(.u (.mv p20 (.k (.i .i64 0))))]) (.blk 0 (.loop (.seq (.seq (.reg [(.u (.mv p104 (.t p20))), (.u (.mv p105 (.t p14))), (.u (.len p106 (.t p105))), (.u (.bin p107 .lss (.t p104) (.t p106)))]) (.cond (.t p107) .skip (.exit 0))) (.seq (.blk 1 (.seq (.drw [(.u (.mv p110 (.t p17))), (.u (.mv p111 (.t p20))), (.u (.ixs p112 1 (.t p110) (.t p111))), (.u (.ld1 p113 (.t p112))), (.u (.bin p114 .neq (.t p113) (.k (.i .i64 3)))), (.u (.mv p115 (.t p114))), (.g p115 true (some p116) (.mv p116 (.t p14))), (.g p115 true (some p117) (.mv p117 (.t p20))), (.g p115 true (some p118) (.ixs p118 1 (.t p116) (.t p117))), (.g p115 true (some p119) (.ld1 p119 (.t p118))), (.g p115 true (some p120) (.mv p120 (.t p17))), (.g p115 true (some p121) (.mv p121 (.t p20))), (.g p115 true (some p122) (.ixs p122 1 (.t p120) (.t p121))), (.g p115 true (some p123) (.ld1 p123 (.t p122))), (.g p115 true (some p124) (.bin p124 .neq (.t p119) (.t p123))), (.u (.pick p125 (.t p115) (.t p124) (.k (.b false)))), (.u (.mv p126 (.t p125))), (.g p126 false (some p127) (.mv p127 (.t p18))), (.g p126 false (some p128) (.mv p128 (.t p20))), (.g p126 false (some p129) (.ixs p129 1 (.t p127) (.t p128))), (.g p126 false (some p130) (.ld1 p130 (.t p129))), (.g p126 false (some p131) (.bin p131 .neq (.t p130) (.k (.i .i64 3)))), (.g p126 false (some p132) (.mv p132 (.t p131))), (.g p132 true (some p133) (.mv p133 (.t p15))), (.g p132 true (some p134) (.mv p134 (.t p20))), (.g p132 true (some p135) (.ixs p135 1 (.t p133) (.t p134))), (.g p132 true (some p136) (.ld1 p136 (.t p135))), (.g p132 true (some p137) (.mv p137 (.t p18))), (.g p132 true (some p138) (.mv p138 (.t p20))), (.g p132 true (some p139) (.ixs p139 1 (.t p137) (.t p138))), (.g p132 true (some p140) (.ld1 p140 (.t p139))), (.g p132 true (some p141) (.bin p141 .neq (.t p136) (.t p140))), (.g p126 false (some p142) (.pick p142 (.t p132) (.t p141) (.k (.b false)))), (.u (.pick p143 (.t p126) (.k (.b true)) (.t p142)))] [0, 0, 3, 7, 15, 31, 63, 63, 255, 511, 63, 63, 3135, 7231, 16383, 32767, 65535, 131071, 131071, 524287, 1048575, 2097151, 4194303, 8388607, 8388607, 33554431, 67108863, 8388607, 8388607, 411041791, 947912703, 2147483647, 4294967295, 8589934591]) (.cond (.t p143) (.seq (.reg [(.u (.mv p9 (.k (.b false))))]) .ret) .skip))) (.reg [(.u (.mv p108 (.t p20))), (.u (.bin p109 .add (.t p108) (.k (.i .i64 1)))), (.u (.mv p20 (.t p109)))])))))) (.seq (.seq (.reg [(.u (.mv p144 (.t p4))), (.u (.bin p145 .lss (.t p144) (.k (.i .i64 0))))]) (.cond (.t p145) (.seq (.reg [(.u (.mv p9 (.k (.b true))))]) .ret) .skip)) (.seq (.reg [(.u (.ldn p147 (.t p5) 5)), (.u (.cf (some p148) p24 [(.t p147)])), (.u (.mv p149 (.t p4))), (.u (.cf (some p150) p44 [(.t p148), (.t p149)])), (.u (.mv p146 (.t p150))), (.u (.ext p151 (.t p146) 0)), (.u (.ext p152 (.t p146) 1)), (.u (.mv p21 (.t p151))), (.u (.mv p22 (.t p152)))]) (.seq (.reg [(.u (.ldn p154 (.t p6) 5)), (.u (.cf (some p155) p24 [(.t p154)])), (.u (.mv p156 (.t p4))), (.u (.cf (some p157) p44 [(.t p155), (.t p156)])), (.u (.mv p153 (.t p157))), (.u (.ext p158 (.t p153) 0)), (.u (.ext p159 (.t p153) 1)), (.u (.mv p23 (.t p158))), (.u (.mv p24 (.t p159)))]) (.seq (.seq (.reg [(.u (.mv p25 (.k (.i .i64 0))))]) (.blk 2 (.loop (.seq (.seq (.reg [(.u (.mv p160 (.t p25))), (.u (.mv p161 (.t p21))), (.u (.len p162 (.t p161))), (.u (.bin p163 .lss (.t p160) (.t p162)))]) (.cond (.t p163) .skip (.exit 2))) (.seq (.blk 3 (.seq (.drw [(.u (.mv p166 (.t p23))), (.u (.mv p167 (.t p21))), (.u (.mv p168 (.t p25))), (.u (.ixs p169 3 (.t p167) (.t p168))), (.u (.fad p170 (.t p169) 0)), (.u (.ld1 p171 (.t p170))), (.u (.mv p172 (.t p21))), (.u (.mv p173 (.t p25))), (.u (.ixs p174 3 (.t p172) (.t p173))), (.u (.fad p175 (.t p174) 1)), (.u (.ld1 p176 (.t p175))), (.u (.mv p177 (.t p21))), (.u (.mv p178 (.t p25))), (.u (.ixs p179 3 (.t p177) (.t p178))), (.u (.fad p180 (.t p179) 2)), (.u (.ld1 p181 (.t p180))), (.u (.bld p182 [(.i .i64 0), (.i .i64 0), (.i .i64 0)] [(0, (1, (.t p171))), (1, (1, (.t p176))), (2, (1, (.t p181)))])), (.u (.cf (some p183) p60 [(.t p166), (.t p182)])), (.u (.un p184 .not (.t p183)))] [0, 0, 0, 6, 14, 30, 0, 0, 192, 448, 960, 0, 0, 6144, 14336, 30720, 65534, 131071, 262143]) (.cond (.t p184) (.seq (.reg [(.u (.mv p9 (.k (.b false))))]) .ret) .skip))) (.reg [(.u (.mv p164 (.t p25))), (.u (.bin p165 .add (.t p164) (.k (.i .i64 1)))), (.u (.mv p25 (.t p165)))])))))) (.seq (.reg [(.u (.mv p185 (.t p22))), (.u (.bin p186 .eql (.t p185) (.k (.i .i64 0)))), (.u (.mv p187 (.t p186))), (.g p187 true (some p188) (.mv p188 (.t p24))), (.g p187 true (some p189) (.bin p189 .eql (.t p188) (.k (.i .i64 0)))), (.u (.pick p190 (.t p187) (.t p189) (.k (.b false)))), (.u (.mv p9 (.t p190)))]) .ret))))))))))))
def rs63 : List RR := [(.t p9)]
theorem fn63 : FnOk Try.prog p64.ix 190 rc63 rs63 := ⟨Try.f63, bodyC Try.f63, Try.func63, by kernel_rfl, by kernel_rfl, by kernel_rfl, by kernel_rfl, by kernel_rfl⟩
noncomputable def rc97 : RC := (.seq (.reg [(.u (.box p3 (.t p1))), (.u (.box p4 (.t p2))), (.u (.mv p5 (.k (.b false))))]) (.seq (.reg [(.u (.fad p6 (.t p3) 0)), (.u (.ld1 p7 (.t p6))), (.u (.fad p8 (.t p4) 0)), (.u (.ld1 p9 (.t p8))), (.u (.bin p10 .geq (.t p7) (.t p9))), (.u (.mv p11 (.t p10))), (.g p11 true (some p12) (.fad p12 (.t p3) 1)), (.g p11 true (some p13) (.ld1 p13 (.t p12))), (.g p11 true (some p14) (.fad p14 (.t p4) 1)), (.g p11 true (some p15) (.ld1 p15 (.t p14))), (.g p11 true (some p16) (.bin p16 .leq (.t p13) (.t p15))), (.u (.pick p17 (.t p11) (.t p16) (.k (.b false)))), (.u (.mv p5 (.t p17)))]) .ret))
def rs97 : List RR := [(.t p5)]
theorem fn97 : FnOk Try.prog p98.ix 17 rc97 rs97 := ⟨Try.f97, bodyC Try.f97, Try.func97, by kernel_rfl, by kernel_rfl, by kernel_rfl, by kernel_rfl, by kernel_rfl⟩
end Go.Ev

namespace Go.Ev
open Go.Proofs
theorem fit_lines : ∀ {es : List (List D)}, (∀ x ∈ es, FitL [.i .i64, .i .i64, .i .i64] x) → ∃ l : List Ln, es = rows lnD l ∧ ∀ r ∈ l, lnWf r
  | [], _ => ⟨[], rfl, fun r h => by cases h⟩
  | x :: es, h => by
    obtain ⟨l, rfl, hl⟩ := fit_lines (es := es) fun y hy => h y (by simp [hy])
    have h1 := h x (by simp)
    simp only [FitL, FitC] at h1
    obtain ⟨d, ds, rfl, ⟨n1, rfl, w1⟩, d2, ds2, rfl, ⟨n2, rfl, w2⟩, d3, ds3, rfl, ⟨n3, rfl, w3⟩, rfl⟩ := h1
    refine ⟨⟨n1, n2, n3⟩ :: l, rfl, fun r hr => ?_⟩
    rcases List.mem_cons.1 hr with rfl | hr
    · exact ⟨wfB_of w1, wfB_of w2, wfB_of w3⟩
    · exact hl r hr
theorem fit_counts : ∀ {es : List (List D)}, (∀ x ∈ es, FitL [.i .i64, .i .i64, .i .i64] x) → ∃ l : List Ct, es = rows ctD l
  | [], _ => ⟨[], rfl⟩
  | x :: es, h => by
    obtain ⟨l, rfl⟩ := fit_counts (es := es) fun y hy => h y (by simp [hy])
    have h1 := h x (by simp)
    simp only [FitL, FitC] at h1
    obtain ⟨d, ds, rfl, ⟨n1, rfl, w1⟩, d2, ds2, rfl, ⟨n2, rfl, w2⟩, d3, ds3, rfl, ⟨n3, rfl, w3⟩, rfl⟩ := h1
    exact ⟨⟨n1, n2, n3⟩ :: l, rfl⟩
theorem FitP.book {ps : List (Bool × List CK)} {ds : List D} (h : FitP ((true, [.i .i64, .i .i64, .i .i64, .sl [.i .i64, .i .i64, .i .i64], .sl [.i .i64, .i .i64, .i .i64]]) :: ps) ds) : ∃ n coin box ls cs ds', ds = .ag [.i .i64 n, .i .i64 coin, .i .i64 box, .lst 3 (rows lnD ls), .lst 3 (rows ctD cs)] :: ds' ∧ FitP ps ds' := by
  unfold FitP at h
  obtain ⟨es, ds', rfl, h1, h2⟩ := h
  simp only [FitL, FitC] at h1
  obtain ⟨d, ds, rfl, ⟨n1, rfl, _⟩, d2, ds2, rfl, ⟨n2, rfl, _⟩, d3, ds3, rfl, ⟨n3, rfl, _⟩, d4, ds4, rfl, ⟨e4, rfl, k4⟩, d5, ds5, rfl, ⟨e5, rfl, k5⟩, rfl⟩ := h1
  obtain ⟨ls, rfl, _⟩ := fit_lines fun x hx => by have := k4 x hx; simpa only [FitL, FitC] using this
  obtain ⟨cs, rfl⟩ := fit_counts fun x hx => by have := k5 x hx; simpa only [FitL, FitC] using this
  exact ⟨n1, n2, n3, ls, cs, ds', rfl, h2⟩
end Go.Ev

namespace Go.Ev
open Go.Proofs
set_option maxRecDepth 1000000
end Go.Ev

namespace Go.Ev
open Go.Proofs
set_option maxRecDepth 100000
theorem rd_wf {B : Bk} (V : VB B) {line : Nat} (hl : line < B.ls.length) {a : Ln} (h : rdB B.n (B.ls.getD line default) a = true) : lnWf a := by
  obtain ⟨h1, h2, h3⟩ := V.rd hl h
  exact ⟨wf_small (by omega) (by omega), wf_small (by omega) (by omega), wf_small (by omega) (by omega)⟩
end Go.Ev

namespace Go.Ev
set_option maxRecDepth 100000
end Go.Ev

namespace Go.Ev
open Go.Proofs
set_option maxRecDepth 100000
def readyB (n coin box : Int) (ls : List Ln) (cs : List Ct) : Bool := thinT n coin box ls cs && decide (faultT n coin box ls cs = 0)
theorem j_ready (n coin box : Int) (ls : List Ln) (cs : List Ct) : PureF Try.prog p55.ix [.ag (bk5 n coin box ls cs)] (.b (readyB n coin box ls cs)) := by
  have iT := j_Thin n coin box ls cs
  have iF := j_Fault n coin box ls cs
  unfold readyB
  refine PureF.run fn54 (by simp) (by simp [PuL, Pu, bk5, pu_ln, pu_ct]) ?_; conv => whnf
  cases hT : thinT n coin box ls cs with
  | false =>
    rw [hT] at iT
    repeat' first | ((first | with_reducible apply WB.tt | with_reducible apply WB.ff | refine Rn.seq ?_ | refine Rn.reg ?_ | refine Rn.drw ?_ | refine Rn.blk ?_ | refine Rn.skip ?_ | refine Rn.ret ?_ | refine Rn.exit ?_ | refine Rn.cond rfl ?_ | refine And.intro (InR.i64 (by omega) (by omega)) ?_ | refine And.intro (show _ ≠ (0 : Int) by omega) ?_ | refine WIx.intsN (by omega) ?_ | refine WIx.rowsN (by omega) ?_ | refine WCall.pure (iT) ?_) <;> conv => whnf)
    exact Fin.b rfl rfl
  | true =>
    rw [hT] at iT
    repeat' first | ((first | with_reducible apply WB.tt | with_reducible apply WB.ff | refine Rn.seq ?_ | refine Rn.reg ?_ | refine Rn.drw ?_ | refine Rn.blk ?_ | refine Rn.skip ?_ | refine Rn.ret ?_ | refine Rn.exit ?_ | refine Rn.cond rfl ?_ | refine And.intro (InR.i64 (by omega) (by omega)) ?_ | refine And.intro (show _ ≠ (0 : Int) by omega) ?_ | refine WIx.intsN (by omega) ?_ | refine WIx.rowsN (by omega) ?_ | refine WCall.pure (iT) ?_ | refine WCall.pure (iF) ?_) <;> conv => whnf)
    exact Fin.b rfl rfl
theorem ready_of {n coin box : Int} {ls : List Ln} {cs : List Ct} (h : readyB n coin box ls cs = true) : ls.length ≤ 8 ∧ cs.length ≤ 4 ∧ faultT n coin box ls cs = 0 := by
  unfold readyB at h
  rw [Bool.and_eq_true, decide_eq_true_iff] at h
  obtain ⟨f1, f2, _, _⟩ := fault_okT h.2
  exact ⟨f1, f2, h.2⟩
theorem fold_mem {A : List Int} (hne : A ≠ []) : A.foldl min (A.getD 0 0) ∈ A ∧ A.foldl max (A.getD 0 0) ∈ A := by
  have hA := getD0_mem hne
  obtain ⟨a1, a2, a3⟩ := foldl_minJ A (A.getD 0 0)
  obtain ⟨c1, c2, c3⟩ := foldl_maxJ A (A.getD 0 0)
  constructor
  · rcases a3 with h | h
    · rw [h]; exact hA
    · exact h
  · rcases c3 with h | h
    · rw [h]; exact hA
    · exact h
end Go.Ev

namespace Go.Ev
open Go.Proofs
set_option maxRecDepth 1000000
end Go.Ev

namespace Go.Ev
open Go.Proofs
set_option maxRecDepth 100000
theorem readB_iff {n : Int} {ls T : List Ln} : readB n ls T = true ↔ T.length = ls.length ∧ ∀ i, i < T.length → rd1 n (ls.getD i default) (T.getD i default) = true := by
  unfold readB
  rw [Bool.and_eq_true, decide_eq_true_iff, List.all_eq_true]
  constructor
  · rintro ⟨h1, h2⟩; exact ⟨h1, fun i hi => h2 i (List.mem_range.2 hi)⟩
  · rintro ⟨h1, h2⟩; exact ⟨h1, fun i hi => h2 i (List.mem_range.1 hi)⟩
theorem mem_getD {α : Type} {l : List α} {x d : α} (h : x ∈ l) : ∃ i, i < l.length ∧ l.getD i d = x := by
  obtain ⟨i, hi, e⟩ := List.getElem_of_mem h
  exact ⟨i, hi, by simp [List.getD, hi, e]⟩
end Go.Ev
