import Derived.Test.YtjgbfnciedkafaaEvUGe
import Derived.Test.YtjgbfnciedkafaaEvUGd
import Derived.Test.YtjgbfnciedkafaaEvUCut
import Derived.Test.YtjgbfnciedkafaaProg
set_option linter.all false
namespace Go.Ev
open Go.Proofs
set_option maxRecDepth 100000
theorem fold_same {A B : List Int} (hA : A ≠ []) (hB : B ≠ []) (h : ∀ x, x ∈ A ↔ x ∈ B) : A.foldl min (A.getD 0 0) = B.foldl min (B.getD 0 0) ∧ A.foldl max (A.getD 0 0) = B.foldl max (B.getD 0 0) := by
  have a0 := getD0_mem hA
  have b0 := getD0_mem hB
  obtain ⟨a1, a2, a3⟩ := foldl_minJ A (A.getD 0 0)
  obtain ⟨b1, b2, b3⟩ := foldl_minJ B (B.getD 0 0)
  obtain ⟨c1, c2, c3⟩ := foldl_maxJ A (A.getD 0 0)
  obtain ⟨d1, d2, d3⟩ := foldl_maxJ B (B.getD 0 0)
  have fA := fold_mem hA
  have fB := fold_mem hB
  have k1 := b2 _ ((h _).1 fA.1)
  have k2 := a2 _ ((h _).2 fB.1)
  have k3 := d2 _ ((h _).1 fA.2)
  have k4 := c2 _ ((h _).2 fB.2)
  omega
structure RenL (n : Int) (ls : List Ln) (σ : Ln → Ln) : Prop where
  inv : ∀ l, σ (σ l) = l
  ok : ∀ l ∈ ls, lnOk n (σ l) = lnOk n l
  sz : ∀ l ∈ ls, rdN n (σ l) = rdN n l
  rd : ∀ l ∈ ls, ∀ x, rd1 n (σ l) (σ x) = rd1 n l x
  pos : ∀ T : List Ln, ∀ i, i < T.length → pos1 (T.map σ) i = pos1 T i
  mon : ∀ (T : List Ln) (box coin : Int), ∀ i, i ≤ T.length → monR box coin (T.map σ) i = monR box coin T i
  mix : ∀ T : List Ln, ∀ i, i ≤ T.length → mixR (T.map σ) i = mixR T i
theorem map_at {σ : Ln → Ln} {T : List Ln} {i : Nat} (h : i < T.length) : (T.map σ).getD i default = σ (T.getD i default) := by
  simp [List.getD, h]
section
variable {n coin box : Int} {ls : List Ln} {cs : List Ct} {σ : Ln → Ln} (R : RenL n ls σ)
include R
theorem RenL.fits (V : VB (B5 n coin box ls cs)) (T : List Ln) : fitsB n coin box (ls.map σ) cs (T.map σ) = fitsB n coin box ls cs T := by
  unfold fitsB
  have h1 : readB n (ls.map σ) (T.map σ) = readB n ls T := by
    rw [Bool.eq_iff_iff, readB_iff, readB_iff, List.length_map, List.length_map]
    constructor
    · rintro ⟨h1, h2⟩
      refine ⟨h1, fun i hi => ?_⟩
      have := h2 i hi
      rw [map_at hi, map_at (by omega), R.rd _ (getD_mem (by omega))] at this
      exact this
    · rintro ⟨h1, h2⟩
      refine ⟨h1, fun i hi => ?_⟩
      rw [map_at hi, map_at (by omega), R.rd _ (getD_mem (by omega))]
      exact h2 i hi
  have h2 : possB (T.map σ) = possB T := by
    unfold possB
    rw [List.length_map, Bool.eq_iff_iff, List.all_eq_true, List.all_eq_true]
    exact ⟨fun h i hi => by rw [← R.pos T i (List.mem_range.1 hi)]; exact h i hi, fun h i hi => by rw [R.pos T i (List.mem_range.1 hi)]; exact h i hi⟩
  rw [h1, h2]
  by_cases hl : T.length = ls.length
  · have h3 : cntB box coin cs (T.map σ) = cntB box coin cs T := by
      unfold cntB
      rw [Bool.eq_iff_iff, List.all_eq_true, List.all_eq_true]
      have key : ∀ c ∈ cs, monR box coin (T.map σ) c.a.toNat = monR box coin T c.a.toNat := fun c hc => by
        have h4 : 0 ≤ c.a ∧ c.a ≤ (ls.length : Int) := V.cs c hc
        exact R.mon T box coin _ (by omega)
      exact ⟨fun h c hc => by rw [← key c hc]; exact h c hc, fun h c hc => by rw [key c hc]; exact h c hc⟩
    rw [h3]
  · have : readB n ls T = false := by
      cases h : readB n ls T with
      | false => rfl
      | true => exact absurd (readB_iff.1 h).1 hl
    rw [this]; rfl
theorem RenL.fault (h : faultT n coin box ls cs = 0) : faultT n coin box (ls.map σ) cs = 0 := by
  obtain ⟨f1, f2, f3, f4⟩ := fault_okT h
  unfold vldT at f3
  simp only [Bool.and_eq_true] at f3
  obtain ⟨v1, v2, v3, v4, v5⟩ := f3
  have hv : vldT n coin box (ls.map σ) cs = true := by
    unfold vldT
    simp only [Bool.and_eq_true]
    refine ⟨v1, v2, v3, ?_, by rw [List.length_map]; exact v5⟩
    rw [List.all_eq_true] at v4 ⊢
    intro x hx
    obtain ⟨l, hl, rfl⟩ := List.mem_map.1 hx
    rw [R.ok l hl]; exact v4 l hl
  have hm : manyR n (ls.map σ) = manyR n ls := by
    unfold manyR
    have key : ∀ (l : List Ln), (∀ x ∈ l, rdN n (σ x) = rdN n x) → ∀ p : Int, (l.map σ).foldl (fun m l => min 5000 (m * rdN n l)) p = l.foldl (fun m l => min 5000 (m * rdN n l)) p := by
      intro l
      induction l with
      | nil => intro _ p; rfl
      | cons a l ih =>
        intro hh p
        rw [List.map_cons, List.foldl_cons, List.foldl_cons, hh a List.mem_cons_self]
        exact ih (fun x hx => hh x (List.mem_cons_of_mem _ hx)) _
    exact key ls R.sz 1
  unfold faultT
  rw [List.length_map, if_neg (by omega), if_pos hv, hm, if_neg (by omega)]
theorem RenL.mem (h : faultT n coin box ls cs = 0) (T : List Ln) : T.map σ ∈ refT (B5 n coin box (ls.map σ) cs) ↔ T ∈ refT (B5 n coin box ls cs) := by
  have V := VB.of h
  have V2 := VB.of (R.fault h)
  rw [mem_refT V, mem_refT V2]
  show fitsB n coin box (ls.map σ) cs (T.map σ) = true ↔ fitsB n coin box ls cs T = true
  rw [R.fits V]
theorem RenL.back (T : List Ln) : (T.map σ).map σ = T := by
  rw [List.map_map]
  have : (σ ∘ σ) = id := funext R.inv
  rw [this, List.map_id]
theorem RenL.has (h : faultT n coin box ls cs = 0) : hasB (B5 n coin box (ls.map σ) cs) = hasB (B5 n coin box ls cs) := by
  rw [Bool.eq_iff_iff, hasB_nil (VB.of h), hasB_nil (VB.of (R.fault h))]
  constructor
  · intro h1 h2
    obtain ⟨X, s, hs⟩ := List.exists_cons_of_ne_nil h1
    have hX : X ∈ refT (B5 n coin box (ls.map σ) cs) := by rw [hs]; exact List.mem_cons_self
    rw [← R.back X, R.mem h, h2] at hX
    cases hX
  · intro h1 h2
    obtain ⟨X, s, hs⟩ := List.exists_cons_of_ne_nil h1
    have hX : X ∈ refT (B5 n coin box ls cs) := by rw [hs]; exact List.mem_cons_self
    rw [← R.mem h, h2] at hX
    cases hX
theorem RenL.ans (h : faultT n coin box ls cs = 0) (hb : hasB (B5 n coin box ls cs) = true) {k k' : Nat} {f g : Mo → Int} (hk : k ≤ ls.length) (hfg : ∀ T : List Ln, T.length = ls.length → f (moR box coin (T.map σ) k) = g (moR box coin T k)) :
    (ansL (B5 n coin box (ls.map σ) cs) k f).foldl min ((ansL (B5 n coin box (ls.map σ) cs) k f).getD 0 0) = (ansL (B5 n coin box ls cs) k g).foldl min ((ansL (B5 n coin box ls cs) k g).getD 0 0) ∧ (ansL (B5 n coin box (ls.map σ) cs) k f).foldl max ((ansL (B5 n coin box (ls.map σ) cs) k f).getD 0 0) = (ansL (B5 n coin box ls cs) k g).foldl max ((ansL (B5 n coin box ls cs) k g).getD 0 0) := by
  have V := VB.of h
  have V2 := VB.of (R.fault h)
  have hne : exT (B5 n coin box ls cs) (B5 n coin box ls cs).ls.length [] ≠ [] := ex_ne (sE_true h hb)
  have hne2 : exT (B5 n coin box (ls.map σ) cs) (B5 n coin box (ls.map σ) cs).ls.length [] ≠ [] := ex_ne (sE_true (R.fault h) (by rw [R.has h]; exact hb))
  refine fold_same (ans_ne hne2) (ans_ne hne) fun x => ?_
  rw [mem_ans V (g := fun T => g (moR box coin T k)) (fun X => rfl), mem_ans V2 (g := fun T => f (moR box coin T k)) (fun X => rfl), List.mem_map, List.mem_map]
  constructor
  · rintro ⟨X, hX, rfl⟩
    have h1 := hX
    rw [← R.back X, R.mem h] at h1
    refine ⟨X.map σ, h1, ?_⟩
    have h2 := hfg (X.map σ) (refT_len V h1)
    rw [R.back X] at h2
    exact h2.symm
  · rintro ⟨X, hX, rfl⟩
    exact ⟨X.map σ, (R.mem h X).2 hX, hfg X (refT_len V hX)⟩
end
def swP (p q v : Int) : Int := if v = p then q else if v = q then p else v
def sX (p q : Int) (l : Ln) : Ln := ⟨l.k, l.c, swP p q l.t⟩
def sY (l : Ln) : Ln := ⟨l.k, l.t, l.c⟩
theorem swP_inv (p q v : Int) : swP p q (swP p q v) = v := by
  unfold swP
  by_cases h1 : v = p
  · rw [if_pos h1]
    by_cases h2 : q = p
    · rw [if_pos h2]; omega
    · rw [if_neg h2, if_pos rfl]; omega
  · rw [if_neg h1]
    by_cases h2 : v = q
    · rw [if_pos h2, if_pos rfl]; omega
    · rw [if_neg h2, if_neg h1, if_neg h2]
theorem sX_c (p q : Int) (T : List Ln) (c : Int) : ∀ i, i ≤ T.length → cOut (T.map (sX p q)) c i = cOut T c i
  | 0, _ => rfl
  | i + 1, h => by
    rw [cOut_step, cOut_step, map_at (by omega), sX_c p q T c i (by omega)]; rfl
theorem sX_t (p q : Int) (T : List Ln) (t : Int) : ∀ i, i ≤ T.length → tOut (T.map (sX p q)) (swP p q t) i = tOut T t i
  | 0, _ => rfl
  | i + 1, h => by
    rw [tOut_step, tOut_step, map_at (by omega), sX_t p q T t i (by omega)]
    show (if swP p q (T.getD i default).t = swP p q t then (if (T.getD i default).k = 1 then (i : Int) else -1) else tOut T t i) = _
    by_cases e : (T.getD i default).t = t
    · rw [if_pos (by rw [e]), if_pos e]
    · rw [if_neg (fun h => e (by rw [← swP_inv p q (T.getD i default).t, h, swP_inv])), if_neg e]
theorem sY_c (T : List Ln) (c : Int) : ∀ i, i ≤ T.length → cOut (T.map sY) c i = tOut T c i
  | 0, _ => rfl
  | i + 1, h => by
    rw [cOut_step, tOut_step, map_at (by omega), sY_c T c i (by omega)]; rfl
theorem sY_t (T : List Ln) (c : Int) : ∀ i, i ≤ T.length → tOut (T.map sY) c i = cOut T c i
  | 0, _ => rfl
  | i + 1, h => by
    rw [tOut_step, cOut_step, map_at (by omega), sY_t T c i (by omega)]; rfl
theorem mon_map {σ : Ln → Ln} (hk : ∀ l, (σ l).k = l.k) (T : List Ln) (box coin : Int) : ∀ i, i ≤ T.length → monR box coin (T.map σ) i = monR box coin T i
  | 0, _ => rfl
  | i + 1, h => by
    show (if ((T.map σ).getD i default).k = 1 then monR box coin (T.map σ) i + coin else monR box coin (T.map σ) i - coin) = _
    rw [map_at (by omega), hk, mon_map hk T box coin i (by omega)]; rfl
theorem ren_X {n p q : Int} (hp : 0 ≤ p ∧ p < n) (hq : 0 ≤ q ∧ q < n) {ls : List Ln} (hls : ls.all (lnOk n) = true) : RenL n ls (sX p q) := by
  refine ⟨fun l => ?_, fun l hl => ?_, fun l hl => ?_, fun l hl x => ?_, fun T i hi => ?_, fun T box coin i hi => mon_map (σ := sX p q) (fun _ => rfl) T box coin i hi, ?_⟩
  · show (⟨l.k, l.c, swP p q (swP p q l.t)⟩ : Ln) = l
    rw [swP_inv]
  · unfold lnOk
    have : inR (swP p q l.t) (-1) (n - 1) = inR l.t (-1) (n - 1) := by
      unfold inR swP
      split
      · rw [decide_eq_true (by omega), decide_eq_true (by omega)]
      · split
        · rw [decide_eq_true (by omega), decide_eq_true (by omega)]
        · rfl
    show (inR l.k 0 2 && (inR l.c (-1) (n - 1) && inR (swP p q l.t) (-1) (n - 1))) = _
    rw [this]
  · unfold rdN szK szC szT
    show _ * (if swP p q l.t = -1 then n else 1) = _
    have : (swP p q l.t = -1) ↔ l.t = -1 := by
      unfold swP
      split
      · omega
      · split <;> omega
    by_cases h : l.t = -1
    · rw [if_pos (this.2 h), if_pos h]; rfl
    · rw [if_neg (fun k => h (this.1 k)), if_neg h]; rfl
  · have hlo := List.all_eq_true.1 hls l hl
    unfold lnOk at hlo
    rw [Bool.and_eq_true, Bool.and_eq_true, inR_iff, inR_iff, inR_iff] at hlo
    unfold rd1 agB
    have e1 : inR (swP p q x.t) 0 (n - 1) = inR x.t 0 (n - 1) := by
      unfold inR swP
      split
      · rw [decide_eq_true (by omega), decide_eq_true (by omega)]
      · split
        · rw [decide_eq_true (by omega), decide_eq_true (by omega)]
        · rfl
    have e2 : decide (swP p q l.t < 0) = decide (l.t < 0) := by
      unfold swP
      split
      · rw [decide_eq_false (by omega), decide_eq_false (by omega)]
      · split
        · rw [decide_eq_false (by omega), decide_eq_false (by omega)]
        · rfl
    have e3 : decide (swP p q l.t = swP p q x.t) = decide (l.t = x.t) := by
      by_cases h : l.t = x.t
      · rw [h, decide_eq_true rfl, decide_eq_true rfl]
      · rw [decide_eq_false h, decide_eq_false (fun k => h (by rw [← swP_inv p q l.t, k, swP_inv]))]
    show (inR x.k 1 2 && (inR x.c 0 (n - 1) && (inR (swP p q x.t) 0 (n - 1) && ((decide (l.k = 0) || decide (l.k = x.k)) && ((decide (l.c < 0) || decide (l.c = x.c)) && (decide (swP p q l.t < 0) || decide (swP p q l.t = swP p q x.t))))))) = _
    rw [e1, e2, e3]
  · unfold pos1
    rw [map_at hi, sX_c p q T _ i (by omega)]
    show ((decide (0 ≤ cOut T (T.getD i default).c i) == decide ((T.getD i default).k = 2)) && (decide (0 ≤ tOut (T.map (sX p q)) (swP p q (T.getD i default).t) i) == decide ((T.getD i default).k = 2))) = _
    rw [sX_t p q T _ i (by omega)]
  · intro T i
    induction i with
    | zero => intro _; rfl
    | succ i ih =>
      intro h
      show mixR (T.map (sX p q)) i + (if ((T.map (sX p q)).getD i default).k = 2 ∧ cOut (T.map (sX p q)) ((T.map (sX p q)).getD i default).c i ≠ tOut (T.map (sX p q)) ((T.map (sX p q)).getD i default).t i then 1 else 0) = _
      rw [ih (by omega), map_at (by omega), sX_c p q T _ i (by omega)]
      show mixR T i + (if (T.getD i default).k = 2 ∧ cOut T (T.getD i default).c i ≠ tOut (T.map (sX p q)) (swP p q (T.getD i default).t) i then 1 else 0) = _
      rw [sX_t p q T _ i (by omega)]; rfl
theorem ren_Y {n : Int} (ls : List Ln) : RenL n ls sY := by
  refine ⟨fun l => rfl, fun l hl => ?_, fun l hl => ?_, fun l hl x => ?_, fun T i hi => ?_, fun T box coin i hi => mon_map (σ := sY) (fun _ => rfl) T box coin i hi, ?_⟩
  · unfold lnOk
    show (inR l.k 0 2 && (inR l.t (-1) (n - 1) && inR l.c (-1) (n - 1))) = _
    rw [Bool.and_comm (inR l.t _ _)]
  · unfold rdN szK szC szT
    show (if l.k = 0 then (2 : Int) else 1) * (if l.t = -1 then n else 1) * (if l.c = -1 then n else 1) = _
    rw [Int.mul_assoc, Int.mul_assoc, Int.mul_comm (if l.t = -1 then n else 1)]
  · unfold rd1 agB
    show (inR x.k 1 2 && (inR x.t 0 (n - 1) && (inR x.c 0 (n - 1) && ((decide (l.k = 0) || decide (l.k = x.k)) && ((decide (l.t < 0) || decide (l.t = x.t)) && (decide (l.c < 0) || decide (l.c = x.c))))))) = _
    cases inR x.k 1 2 <;> cases inR x.t 0 (n - 1) <;> cases inR x.c 0 (n - 1) <;> cases (decide (l.k = 0) || decide (l.k = x.k)) <;> cases (decide (l.t < 0) || decide (l.t = x.t)) <;> cases (decide (l.c < 0) || decide (l.c = x.c)) <;> rfl
  · unfold pos1
    rw [map_at hi, sY_c T _ i (by omega), sY_t T _ i (by omega)]
    exact Bool.and_comm _ _
  · intro T i
    induction i with
    | zero => intro _; rfl
    | succ i ih =>
      intro h
      show mixR (T.map sY) i + (if ((T.map sY).getD i default).k = 2 ∧ cOut (T.map sY) ((T.map sY).getD i default).c i ≠ tOut (T.map sY) ((T.map sY).getD i default).t i then 1 else 0) = mixR T i + (if (T.getD i default).k = 2 ∧ cOut T (T.getD i default).c i ≠ tOut T (T.getD i default).t i then 1 else 0)
      rw [ih (by omega), map_at (by omega), sY_c T _ i (by omega), sY_t T _ i (by omega)]
      congr 1
      show (if (T.getD i default).k = 2 ∧ tOut T (T.getD i default).t i ≠ cOut T (T.getD i default).c i then (1 : Int) else 0) = _
      by_cases h : cOut T (T.getD i default).c i = tOut T (T.getD i default).t i
      · rw [if_neg (fun k => k.2 h.symm), if_neg (fun k => k.2 h)]
      · by_cases h2 : (T.getD i default).k = 2
        · rw [if_pos ⟨h2, fun k => h k.symm⟩, if_pos ⟨h2, h⟩]
        · rw [if_neg (fun k => h2 k.1), if_neg (fun k => h2 k.1)]
end Go.Ev

namespace Go.Ev
open Go.Proofs
set_option maxRecDepth 100000
theorem Cv.ns {γ γ' : Gh} {w : World} {z : Nat} : Cv γ γ' w .ns (.lst z []) := fun v h => by
  unfold DV at h ⊢
  exact ⟨none, 0, h, Nat.le_refl _, fun _ => rfl, .inl rfl⟩
theorem prod_take {n : Int} (hn : 1 ≤ n ∧ n ≤ 4) (ls : List Ln) (k : Nat) : prodP n (ls.take k) ≤ prodP n ls := by
  have h1 : prodP n ls = (ls.drop k).foldl (fun m l => m * rdN n l) (prodP n (ls.take k)) := by
    unfold prodP
    rw [← List.foldl_append, List.take_append_drop]
  have h2 := (many_prod hn.1 hn.2 (ls.take k)).2
  rw [h1]
  generalize prodP n (ls.take k) = p at h2 ⊢
  generalize ls.drop k = r
  induction r generalizing p with
  | nil => exact Int.le_refl _
  | cons x r ih =>
    obtain ⟨b1, b2⟩ := rdN_bd hn.1 hn.2 x
    have h0 : p * 1 ≤ p * rdN n x := Int.mul_le_mul (Int.le_refl _) b1 (by omega) (by omega)
    rw [Int.mul_one] at h0
    exact Int.le_trans h0 (ih (p * rdN n x) (by omega))
theorem VB.pre {n coin box : Int} {ls : List Ln} {cs : List Ct} (V : VB (B5 n coin box ls cs)) (k : Nat) : VB (B5 n coin box (ls.take k) []) := by
  have hn : 1 ≤ n ∧ n ≤ 4 := V.n
  have h8 : ls.length ≤ 8 := V.len
  refine ⟨V.n, V.coin, V.box, ?_, by show (0 : Nat) ≤ 4; omega, ?_, fun c hc => absurd (show c ∈ ([] : List Ct) from hc) (by simp), ?_⟩
  · show (ls.take k).length ≤ 8
    rw [List.length_take]; omega
  · show (ls.take k).all (lnOk n) = true
    rw [List.all_eq_true]
    exact fun x hx => List.all_eq_true.1 V.ls x (List.mem_of_mem_take hx)
  · show manyR n (ls.take k) ≤ 4096
    have h1 := many_prod hn.1 hn.2 (ls.take k)
    have h2 := many_prod hn.1 hn.2 ls
    have h3 := prod_take hn ls k
    have h4 : manyR n ls ≤ 4096 := V.many
    omega
end Go.Ev

namespace Go.Ev
open Go.Proofs
set_option maxRecDepth 100000
end Go.Ev

namespace Go.Ev
open Go.Proofs
noncomputable def fp : T RF := (.n (.n (.n (.n (.n (.n (.n (.n .e (compF Try.prog 127) .e) (compF Try.prog 63) .e) (compF Try.prog 31) (.n (.n .e (compF Try.prog 159) .e) (compF Try.prog 95) .e)) (compF Try.prog 15) (.n (.n (.n .e (compF Try.prog 143) .e) (compF Try.prog 79) .e) (compF Try.prog 47) (.n .e (compF Try.prog 111) .e))) (compF Try.prog 7) (.n (.n (.n (.n .e (compF Try.prog 135) .e) (compF Try.prog 71) .e) (compF Try.prog 39) (.n .e (compF Try.prog 103) .e)) (compF Try.prog 23) (.n (.n (.n .e (compF Try.prog 151) .e) (compF Try.prog 87) .e) (compF Try.prog 55) (.n .e (compF Try.prog 119) .e)))) (compF Try.prog 3) (.n (.n (.n (.n (.n .e (compF Try.prog 131) .e) (compF Try.prog 67) .e) (compF Try.prog 35) (.n (.n .e (compF Try.prog 163) .e) (compF Try.prog 99) .e)) (compF Try.prog 19) (.n (.n (.n .e (compF Try.prog 147) .e) (compF Try.prog 83) .e) (compF Try.prog 51) (.n .e (compF Try.prog 115) .e))) (compF Try.prog 11) (.n (.n (.n (.n .e (compF Try.prog 139) .e) (compF Try.prog 75) .e) (compF Try.prog 43) (.n .e (compF Try.prog 107) .e)) (compF Try.prog 27) (.n (.n (.n .e (compF Try.prog 155) .e) (compF Try.prog 91) .e) (compF Try.prog 59) (.n .e (compF Try.prog 123) .e))))) none (.n (.n (.n (.n (.n (.n .e (compF Try.prog 129) .e) (compF Try.prog 65) .e) (compF Try.prog 33) (.n (.n .e (compF Try.prog 161) .e) (compF Try.prog 97) .e)) (compF Try.prog 17) (.n (.n (.n .e (compF Try.prog 145) .e) (compF Try.prog 81) .e) (compF Try.prog 49) (.n .e (compF Try.prog 113) .e))) (compF Try.prog 9) (.n (.n (.n (.n .e (compF Try.prog 137) .e) (compF Try.prog 73) .e) (compF Try.prog 41) (.n .e (compF Try.prog 105) .e)) (compF Try.prog 25) (.n (.n (.n .e (compF Try.prog 153) .e) (compF Try.prog 89) .e) (compF Try.prog 57) (.n .e (compF Try.prog 121) .e)))) (compF Try.prog 5) (.n (.n (.n (.n (.n .e (compF Try.prog 133) .e) (compF Try.prog 69) .e) (compF Try.prog 37) (.n (.n .e (compF Try.prog 165) .e) (compF Try.prog 101) .e)) (compF Try.prog 21) (.n (.n (.n .e (compF Try.prog 149) .e) (compF Try.prog 85) .e) (compF Try.prog 53) (.n .e (compF Try.prog 117) .e))) (compF Try.prog 13) (.n (.n (.n (.n .e (compF Try.prog 141) .e) (compF Try.prog 77) .e) (compF Try.prog 45) (.n .e (compF Try.prog 109) .e)) (compF Try.prog 29) (.n (.n (.n .e (compF Try.prog 157) .e) (compF Try.prog 93) .e) (compF Try.prog 61) (.n .e (compF Try.prog 125) .e)))))) none (.n (.n (.n (.n (.n (.n (.n .e (compF Try.prog 128) .e) (compF Try.prog 64) .e) (compF Try.prog 32) (.n (.n .e (compF Try.prog 160) .e) (compF Try.prog 96) .e)) (compF Try.prog 16) (.n (.n (.n .e (compF Try.prog 144) .e) (compF Try.prog 80) .e) (compF Try.prog 48) (.n .e (compF Try.prog 112) .e))) (compF Try.prog 8) (.n (.n (.n (.n .e (compF Try.prog 136) .e) (compF Try.prog 72) .e) (compF Try.prog 40) (.n .e (compF Try.prog 104) .e)) (compF Try.prog 24) (.n (.n (.n .e (compF Try.prog 152) .e) (compF Try.prog 88) .e) (compF Try.prog 56) (.n .e (compF Try.prog 120) .e)))) (compF Try.prog 4) (.n (.n (.n (.n (.n .e (compF Try.prog 132) .e) (compF Try.prog 68) .e) (compF Try.prog 36) (.n (.n .e (compF Try.prog 164) .e) (compF Try.prog 100) .e)) (compF Try.prog 20) (.n (.n (.n .e (compF Try.prog 148) .e) (compF Try.prog 84) .e) (compF Try.prog 52) (.n .e (compF Try.prog 116) .e))) (compF Try.prog 12) (.n (.n (.n (.n .e (compF Try.prog 140) .e) (compF Try.prog 76) .e) (compF Try.prog 44) (.n .e (compF Try.prog 108) .e)) (compF Try.prog 28) (.n (.n (.n .e (compF Try.prog 156) .e) (compF Try.prog 92) .e) (compF Try.prog 60) (.n .e (compF Try.prog 124) .e))))) none (.n (.n (.n (.n (.n (.n .e (compF Try.prog 130) .e) (compF Try.prog 66) .e) (compF Try.prog 34) (.n (.n .e (compF Try.prog 162) .e) (compF Try.prog 98) .e)) (compF Try.prog 18) (.n (.n (.n .e (compF Try.prog 146) .e) (compF Try.prog 82) .e) (compF Try.prog 50) (.n .e (compF Try.prog 114) .e))) (compF Try.prog 10) (.n (.n (.n (.n .e (compF Try.prog 138) .e) (compF Try.prog 74) .e) (compF Try.prog 42) (.n .e (compF Try.prog 106) .e)) (compF Try.prog 26) (.n (.n (.n .e (compF Try.prog 154) .e) (compF Try.prog 90) .e) (compF Try.prog 58) (.n .e (compF Try.prog 122) .e)))) (compF Try.prog 6) (.n (.n (.n (.n (.n .e (compF Try.prog 134) .e) (compF Try.prog 70) .e) (compF Try.prog 38) (.n .e (compF Try.prog 102) .e)) (compF Try.prog 22) (.n (.n (.n .e (compF Try.prog 150) .e) (compF Try.prog 86) .e) (compF Try.prog 54) (.n .e (compF Try.prog 118) .e))) (compF Try.prog 14) (.n (.n (.n (.n .e (compF Try.prog 142) .e) (compF Try.prog 78) .e) (compF Try.prog 46) (.n .e (compF Try.prog 110) .e)) (compF Try.prog 30) (.n (.n (.n .e (compF Try.prog 158) .e) (compF Try.prog 94) .e) (compF Try.prog 62) (.n .e (compF Try.prog 126) .e)))))))
set_option maxRecDepth 100000 in
theorem fp_ok : FPok Try.prog fp := FPok.of (TabOk.n TabOk.no (TabOk.n TabOk.no (TabOk.n TabOk.at (TabOk.n TabOk.at (TabOk.n TabOk.at (TabOk.n TabOk.at (TabOk.n TabOk.at (TabOk.n TabOk.at TabOk.e TabOk.e) TabOk.e) (TabOk.n TabOk.at (TabOk.n TabOk.at TabOk.e TabOk.e) TabOk.e)) (TabOk.n TabOk.at (TabOk.n TabOk.at (TabOk.n TabOk.at TabOk.e TabOk.e) TabOk.e) (TabOk.n TabOk.at TabOk.e TabOk.e))) (TabOk.n TabOk.at (TabOk.n TabOk.at (TabOk.n TabOk.at (TabOk.n TabOk.at TabOk.e TabOk.e) TabOk.e) (TabOk.n TabOk.at TabOk.e TabOk.e)) (TabOk.n TabOk.at (TabOk.n TabOk.at (TabOk.n TabOk.at TabOk.e TabOk.e) TabOk.e) (TabOk.n TabOk.at TabOk.e TabOk.e)))) (TabOk.n TabOk.at (TabOk.n TabOk.at (TabOk.n TabOk.at (TabOk.n TabOk.at (TabOk.n TabOk.at TabOk.e TabOk.e) TabOk.e) (TabOk.n TabOk.at (TabOk.n TabOk.at TabOk.e TabOk.e) TabOk.e)) (TabOk.n TabOk.at (TabOk.n TabOk.at (TabOk.n TabOk.at TabOk.e TabOk.e) TabOk.e) (TabOk.n TabOk.at TabOk.e TabOk.e))) (TabOk.n TabOk.at (TabOk.n TabOk.at (TabOk.n TabOk.at (TabOk.n TabOk.at TabOk.e TabOk.e) TabOk.e) (TabOk.n TabOk.at TabOk.e TabOk.e)) (TabOk.n TabOk.at (TabOk.n TabOk.at (TabOk.n TabOk.at TabOk.e TabOk.e) TabOk.e) (TabOk.n TabOk.at TabOk.e TabOk.e))))) (TabOk.n TabOk.at (TabOk.n TabOk.at (TabOk.n TabOk.at (TabOk.n TabOk.at (TabOk.n TabOk.at (TabOk.n TabOk.at TabOk.e TabOk.e) TabOk.e) (TabOk.n TabOk.at (TabOk.n TabOk.at TabOk.e TabOk.e) TabOk.e)) (TabOk.n TabOk.at (TabOk.n TabOk.at (TabOk.n TabOk.at TabOk.e TabOk.e) TabOk.e) (TabOk.n TabOk.at TabOk.e TabOk.e))) (TabOk.n TabOk.at (TabOk.n TabOk.at (TabOk.n TabOk.at (TabOk.n TabOk.at TabOk.e TabOk.e) TabOk.e) (TabOk.n TabOk.at TabOk.e TabOk.e)) (TabOk.n TabOk.at (TabOk.n TabOk.at (TabOk.n TabOk.at TabOk.e TabOk.e) TabOk.e) (TabOk.n TabOk.at TabOk.e TabOk.e)))) (TabOk.n TabOk.at (TabOk.n TabOk.at (TabOk.n TabOk.at (TabOk.n TabOk.at (TabOk.n TabOk.at TabOk.e TabOk.e) TabOk.e) (TabOk.n TabOk.at (TabOk.n TabOk.at TabOk.e TabOk.e) TabOk.e)) (TabOk.n TabOk.at (TabOk.n TabOk.at (TabOk.n TabOk.at TabOk.e TabOk.e) TabOk.e) (TabOk.n TabOk.at TabOk.e TabOk.e))) (TabOk.n TabOk.at (TabOk.n TabOk.at (TabOk.n TabOk.at (TabOk.n TabOk.at TabOk.e TabOk.e) TabOk.e) (TabOk.n TabOk.at TabOk.e TabOk.e)) (TabOk.n TabOk.at (TabOk.n TabOk.at (TabOk.n TabOk.at TabOk.e TabOk.e) TabOk.e) (TabOk.n TabOk.at TabOk.e TabOk.e)))))) (TabOk.n TabOk.no (TabOk.n TabOk.at (TabOk.n TabOk.at (TabOk.n TabOk.at (TabOk.n TabOk.at (TabOk.n TabOk.at (TabOk.n TabOk.at TabOk.e TabOk.e) TabOk.e) (TabOk.n TabOk.at (TabOk.n TabOk.at TabOk.e TabOk.e) TabOk.e)) (TabOk.n TabOk.at (TabOk.n TabOk.at (TabOk.n TabOk.at TabOk.e TabOk.e) TabOk.e) (TabOk.n TabOk.at TabOk.e TabOk.e))) (TabOk.n TabOk.at (TabOk.n TabOk.at (TabOk.n TabOk.at (TabOk.n TabOk.at TabOk.e TabOk.e) TabOk.e) (TabOk.n TabOk.at TabOk.e TabOk.e)) (TabOk.n TabOk.at (TabOk.n TabOk.at (TabOk.n TabOk.at TabOk.e TabOk.e) TabOk.e) (TabOk.n TabOk.at TabOk.e TabOk.e)))) (TabOk.n TabOk.at (TabOk.n TabOk.at (TabOk.n TabOk.at (TabOk.n TabOk.at (TabOk.n TabOk.at TabOk.e TabOk.e) TabOk.e) (TabOk.n TabOk.at (TabOk.n TabOk.at TabOk.e TabOk.e) TabOk.e)) (TabOk.n TabOk.at (TabOk.n TabOk.at (TabOk.n TabOk.at TabOk.e TabOk.e) TabOk.e) (TabOk.n TabOk.at TabOk.e TabOk.e))) (TabOk.n TabOk.at (TabOk.n TabOk.at (TabOk.n TabOk.at (TabOk.n TabOk.at TabOk.e TabOk.e) TabOk.e) (TabOk.n TabOk.at TabOk.e TabOk.e)) (TabOk.n TabOk.at (TabOk.n TabOk.at (TabOk.n TabOk.at TabOk.e TabOk.e) TabOk.e) (TabOk.n TabOk.at TabOk.e TabOk.e))))) (TabOk.n TabOk.at (TabOk.n TabOk.at (TabOk.n TabOk.at (TabOk.n TabOk.at (TabOk.n TabOk.at (TabOk.n TabOk.at TabOk.e TabOk.e) TabOk.e) (TabOk.n TabOk.at (TabOk.n TabOk.at TabOk.e TabOk.e) TabOk.e)) (TabOk.n TabOk.at (TabOk.n TabOk.at (TabOk.n TabOk.at TabOk.e TabOk.e) TabOk.e) (TabOk.n TabOk.at TabOk.e TabOk.e))) (TabOk.n TabOk.at (TabOk.n TabOk.at (TabOk.n TabOk.at (TabOk.n TabOk.at TabOk.e TabOk.e) TabOk.e) (TabOk.n TabOk.at TabOk.e TabOk.e)) (TabOk.n TabOk.at (TabOk.n TabOk.at (TabOk.n TabOk.at TabOk.e TabOk.e) TabOk.e) (TabOk.n TabOk.at TabOk.e TabOk.e)))) (TabOk.n TabOk.at (TabOk.n TabOk.at (TabOk.n TabOk.at (TabOk.n TabOk.at (TabOk.n TabOk.at TabOk.e TabOk.e) TabOk.e) (TabOk.n TabOk.at TabOk.e TabOk.e)) (TabOk.n TabOk.at (TabOk.n TabOk.at (TabOk.n TabOk.at TabOk.e TabOk.e) TabOk.e) (TabOk.n TabOk.at TabOk.e TabOk.e))) (TabOk.n TabOk.at (TabOk.n TabOk.at (TabOk.n TabOk.at (TabOk.n TabOk.at TabOk.e TabOk.e) TabOk.e) (TabOk.n TabOk.at TabOk.e TabOk.e)) (TabOk.n TabOk.at (TabOk.n TabOk.at (TabOk.n TabOk.at TabOk.e TabOk.e) TabOk.e) (TabOk.n TabOk.at TabOk.e TabOk.e)))))))
def pfAw : Pos := (.o (.i (.i (.o .h))))
def nx14 : Pos := (.o (.o (.o (.o (.o (.o (.o (.o (.o (.o (.o (.o (.o (.o .h))))))))))))))
def nx16 : Pos := (.o (.o (.o (.o (.o (.o (.o (.o (.o (.o (.o (.o (.o (.o (.o (.o .h))))))))))))))))
noncomputable def fp1 : T RF := (.n (.n (.n (.n (.n (.n (.n (.n .e (compF Try.prog 127) .e) (compF Try.prog 63) .e) (compF Try.prog 31) (.n (.n .e (compF Try.prog 159) .e) (compF Try.prog 95) .e)) (compF Try.prog 15) (.n (.n (.n .e (compF Try.prog 143) .e) (compF Try.prog 79) .e) (compF Try.prog 47) (.n .e (compF Try.prog 111) .e))) (compF Try.prog 7) (.n (.n (.n (.n .e (compF Try.prog 135) .e) (compF Try.prog 71) .e) (compF Try.prog 39) (.n .e (compF Try.prog 103) .e)) (compF Try.prog 23) (.n (.n (.n .e (compF Try.prog 151) .e) (compF Try.prog 87) .e) (compF Try.prog 55) (.n .e (compF Try.prog 119) .e)))) (compF Try.prog 3) (.n (.n (.n (.n (.n .e (compF Try.prog 131) .e) (compF Try.prog 67) .e) (compF Try.prog 35) (.n (.n .e (compF Try.prog 163) .e) (compF Try.prog 99) .e)) (compF Try.prog 19) (.n (.n (.n .e (compF Try.prog 147) .e) (compF Try.prog 83) .e) (compF Try.prog 51) (.n .e (compF Try.prog 115) .e))) (compF Try.prog 11) (.n (.n (.n (.n .e (compF Try.prog 139) .e) (compF Try.prog 75) .e) (compF Try.prog 43) (.n .e (compF Try.prog 107) .e)) (compF Try.prog 27) (.n (.n (.n .e (compF Try.prog 155) .e) (compF Try.prog 91) .e) (compF Try.prog 59) (.n .e (compF Try.prog 123) .e))))) none (.n (.n (.n (.n (.n (.n .e (compF Try.prog 129) .e) (compF Try.prog 65) .e) (compF Try.prog 33) (.n (.n .e (compF Try.prog 161) .e) (compF Try.prog 97) .e)) (compF Try.prog 17) (.n (.n (.n .e (compF Try.prog 145) .e) (compF Try.prog 81) .e) (compF Try.prog 49) (.n .e (compF Try.prog 113) .e))) (compF Try.prog 9) (.n (.n (.n (.n .e (compF Try.prog 137) .e) (compF Try.prog 73) .e) (compF Try.prog 41) (.n .e (compF Try.prog 105) .e)) (compF Try.prog 25) (.n (.n (.n .e (compF Try.prog 153) .e) (compF Try.prog 89) .e) (compF Try.prog 57) (.n .e (compF Try.prog 121) .e)))) (compF Try.prog 5) (.n (.n (.n (.n (.n .e (compF Try.prog 133) .e) (compF Try.prog 69) .e) (compF Try.prog 37) (.n (.n .e (compF Try.prog 165) .e) (compF Try.prog 101) .e)) (some knT) (.n (.n (.n .e (compF Try.prog 149) .e) (compF Try.prog 85) .e) (compF Try.prog 53) (.n .e (compF Try.prog 117) .e))) (compF Try.prog 13) (.n (.n (.n (.n .e (compF Try.prog 141) .e) (compF Try.prog 77) .e) (compF Try.prog 45) (.n .e (compF Try.prog 109) .e)) (compF Try.prog 29) (.n (.n (.n .e (compF Try.prog 157) .e) (compF Try.prog 93) .e) (compF Try.prog 61) (.n .e (compF Try.prog 125) .e)))))) none (.n (.n (.n (.n (.n (.n (.n .e (compF Try.prog 128) .e) (compF Try.prog 64) .e) (compF Try.prog 32) (.n (.n .e (compF Try.prog 160) .e) (compF Try.prog 96) .e)) (compF Try.prog 16) (.n (.n (.n .e (compF Try.prog 144) .e) (compF Try.prog 80) .e) (compF Try.prog 48) (.n .e (compF Try.prog 112) .e))) (compF Try.prog 8) (.n (.n (.n (.n .e (compF Try.prog 136) .e) (compF Try.prog 72) .e) (compF Try.prog 40) (.n .e (compF Try.prog 104) .e)) (compF Try.prog 24) (.n (.n (.n .e (compF Try.prog 152) .e) (compF Try.prog 88) .e) (compF Try.prog 56) (.n .e (compF Try.prog 120) .e)))) (compF Try.prog 4) (.n (.n (.n (.n (.n .e (compF Try.prog 132) .e) (compF Try.prog 68) .e) (compF Try.prog 36) (.n (.n .e (compF Try.prog 164) .e) (compF Try.prog 100) .e)) (compF Try.prog 20) (.n (.n (.n .e (compF Try.prog 148) .e) (compF Try.prog 84) .e) (compF Try.prog 52) (.n .e (compF Try.prog 116) .e))) (compF Try.prog 12) (.n (.n (.n (.n .e (compF Try.prog 140) .e) (compF Try.prog 76) .e) (compF Try.prog 44) (.n .e (compF Try.prog 108) .e)) (compF Try.prog 28) (.n (.n (.n .e (compF Try.prog 156) .e) (compF Try.prog 92) .e) (compF Try.prog 60) (.n .e (compF Try.prog 124) .e))))) none (.n (.n (.n (.n (.n (.n .e (compF Try.prog 130) .e) (compF Try.prog 66) .e) (compF Try.prog 34) (.n (.n .e (compF Try.prog 162) .e) (compF Try.prog 98) .e)) (compF Try.prog 18) (.n (.n (.n .e (compF Try.prog 146) .e) (compF Try.prog 82) .e) (compF Try.prog 50) (.n .e (compF Try.prog 114) .e))) (compF Try.prog 10) (.n (.n (.n (.n .e (compF Try.prog 138) .e) (compF Try.prog 74) .e) (compF Try.prog 42) (.n .e (compF Try.prog 106) .e)) (compF Try.prog 26) (.n (.n (.n .e (compF Try.prog 154) .e) (compF Try.prog 90) .e) (compF Try.prog 58) (.n .e (compF Try.prog 122) .e)))) (compF Try.prog 6) (.n (.n (.n (.n (.n .e (compF Try.prog 134) .e) (compF Try.prog 70) .e) (compF Try.prog 38) (.n .e (compF Try.prog 102) .e)) (compF Try.prog 22) (.n (.n (.n .e (compF Try.prog 150) .e) (compF Try.prog 86) .e) (compF Try.prog 54) (.n .e (compF Try.prog 118) .e))) (compF Try.prog 14) (.n (.n (.n (.n .e (compF Try.prog 142) .e) (compF Try.prog 78) .e) (compF Try.prog 46) (.n .e (compF Try.prog 110) .e)) (compF Try.prog 30) (.n (.n (.n .e (compF Try.prog 158) .e) (compF Try.prog 94) .e) (compF Try.prog 62) (.n .e (compF Try.prog 126) .e)))))))
end Go.Ev

namespace Go.Ev
open Go.Proofs
noncomputable def c21 : Code := match Try.f21.body with
  | some c => c
  | none => .skip
end Go.Ev

namespace Go.Ev
open Go.Proofs
def ms21_0 : T Unit := (.n (.n (.n .e (some ()) .e) (some ()) (.n .e (some ()) .e)) (some ()) (.n (.n .e (some ()) .e) (some ()) (.n .e none (.n .e (some ()) .e))))
def mo21_0 : T Unit := (.n (.n .e none (.n (.n (.n .e none (.n (.n .e none (.n (.n (.n .e (some ()) .e) none .e) none .e)) none .e)) none .e) none (.n .e none (.n .e none (.n (.n (.n .e none (.n (.n (.n .e (some ()) .e) none .e) none .e)) none .e) none .e))))) none (.n (.n (.n .e none (.n (.n .e none (.n .e none (.n .e none (.n (.n .e none (.n .e (some ()) .e)) none .e)))) none .e)) none .e) none .e))
def x21_0 : X := ⟨(.n (.n (.n .e (some (.sl (.o (.i (.i (.i (.i (.o (.o (.i (.o (.o .h)))))))))) 0 3 2 1)) .e) (some (.sl (.o (.i (.o (.o (.i (.o (.i (.o (.o .h))))))))) 0 1 0 3)) (.n .e (some (.i .i64 (.ofNat 0))) .e)) (some (.b false)) (.n (.n .e (some (.sl (.i (.o (.o (.i (.o (.i (.i (.i (.o (.i .h)))))))))) 0 3 2 1)) .e) (some (.i .i64 (.ofNat 0))) (.n .e none (.n .e (some (.tp [(.sl (.o (.i (.o (.o (.i (.o (.i (.o (.o .h))))))))) 0 1 0 3), (.i .i64 (.ofNat 0))])) .e)))), (.n (.n .e none (.n (.n (.n .e none (.n (.n .e none (.n (.n (.n .e (some (.cells false [(.o (.i .i64 (.ofNat 2)) 0), (.o (.i .i64 (.ofNat 0)) 0), (.o (.i .i64 (.ofNat 1)) 0)] 1)) .e) none .e) none .e)) none .e)) none .e) none (.n .e none (.n .e none (.n (.n (.n .e none (.n (.n (.n .e (some (.cells false [(.o (.i .i64 (.ofNat 1)) 0), (.o (.i .i64 (.ofNat 1)) 1), (.o (.i .i64 (.ofNat 2)) 2)] 3)) .e) none .e) none .e)) none .e) none .e))))) none (.n (.n (.n .e none (.n (.n .e none (.n .e none (.n .e none (.n (.n .e none (.n .e (some (.cells false [(.o (.i .i64 (.ofNat 1)) 0), (.o (.i .i64 (.ofNat 2)) 1), (.o (.i .i64 (.ofNat 1)) 2)] 3)) .e)) none .e)))) none .e)) none .e) none .e)), (.o (.o (.o (.o (.i (.i (.i (.o (.o (.o (.o .h))))))))))), none⟩
end Go.Ev

namespace Go.Ev
open Go.Proofs
set_option maxRecDepth 1000000 in
theorem p21_0 : gcX ms21_0 mo21_0 (exec Try.prog fp 100000 (comp Try.prog Try.f21.ntmps (Code.pre 3 c21)) ⟨.e, .e, .h, none⟩) = some x21_0 := by kernel_rfl
end Go.Ev

namespace Go.Ev
open Go.Proofs
def ms21_1 : T Unit := (.n (.n (.n (.n .e (some ()) .e) (some ()) .e) (some ()) (.n (.n .e (some ()) .e) (some ()) .e)) (some ()) (.n (.n (.n .e (some ()) .e) (some ()) .e) (some ()) (.n .e (some ()) (.n .e (some ()) .e))))
def mo21_1 : T Unit := (.n (.n .e none (.n (.n (.n .e none (.n (.n .e none (.n (.n (.n .e (some ()) .e) none .e) none .e)) none .e)) none .e) none (.n .e none (.n .e none (.n (.n (.n .e none (.n (.n (.n .e (some ()) .e) none .e) none .e)) none .e) none .e))))) none (.n (.n (.n .e none (.n (.n .e none (.n .e none (.n .e none (.n (.n .e none (.n .e (some ()) .e)) none .e)))) none (.n .e none (.n .e none (.n (.n (.n (.n .e none (.n .e (some ()) .e)) none .e) none .e) none .e))))) none .e) none (.n .e none (.n (.n .e none (.n .e none (.n (.n .e none (.n (.n .e none (.n (.n .e (some ()) .e) none .e)) none .e)) none .e))) none .e))))
def x21_1 : X := ⟨(.n (.n (.n (.n .e (some (.i .i64 (.ofNat 0))) .e) (some (.sl (.o (.i (.i (.i (.i (.o (.o (.i (.o (.o .h)))))))))) 0 3 2 1)) .e) (some (.sl (.o (.i (.o (.o (.i (.o (.i (.o (.o .h))))))))) 0 1 0 3)) (.n (.n .e (some (.i .i64 (.ofNat 0))) .e) (some (.i .i64 (.ofNat 0))) .e)) (some (.b false)) (.n (.n (.n .e (some (.pt (.i (.o (.o (.i (.i (.i (.i (.o (.o (.o (.i .h))))))))))) 0 0)) .e) (some (.sl (.i (.o (.o (.i (.o (.i (.i (.i (.o (.i .h)))))))))) 0 3 2 1)) .e) (some (.i .i64 (.ofNat 0))) (.n .e (some (.pt (.i (.i (.i (.o (.i (.i (.o (.i (.o (.i (.o .h))))))))))) 0 0)) (.n .e (some (.tp [(.sl (.o (.i (.o (.o (.i (.o (.i (.o (.o .h))))))))) 0 1 0 3), (.i .i64 (.ofNat 0))])) .e)))), (.n (.n .e none (.n (.n (.n .e none (.n (.n .e none (.n (.n (.n .e (some (.cells false [(.o (.i .i64 (.ofNat 2)) 0), (.o (.i .i64 (.ofNat 0)) 0), (.o (.i .i64 (.ofNat 1)) 0)] 1)) .e) none .e) none .e)) none .e)) none .e) none (.n .e none (.n .e none (.n (.n (.n .e none (.n (.n (.n .e (some (.cells false [(.o (.i .i64 (.ofNat 1)) 0), (.o (.i .i64 (.ofNat 1)) 1), (.o (.i .i64 (.ofNat 2)) 2)] 3)) .e) none .e) none .e)) none .e) none .e))))) none (.n (.n (.n .e none (.n (.n .e none (.n .e none (.n .e none (.n (.n .e none (.n .e (some (.cells false [(.o (.i .i64 (.ofNat 1)) 0), (.o (.i .i64 (.ofNat 2)) 1), (.o (.i .i64 (.ofNat 1)) 2)] 3)) .e)) none .e)))) none (.n .e none (.n .e none (.n (.n (.n (.n .e none (.n .e (some (.cells false [(.o (.i .i64 (.ofNat 0)) 0), (.o (.i .i64 (.ofNat 1)) 0)] 1)) .e)) none .e) none .e) none .e))))) none .e) none (.n .e none (.n (.n .e none (.n .e none (.n (.n .e none (.n (.n .e none (.n (.n .e (some (.cells false [(.o (.i .i64 (.ofNat 30)) 0), (.o (.i .i64 (.ofNat 30)) 0)] 1)) .e) none .e)) none .e)) none .e))) none .e)))), (.o (.i (.o (.i (.i (.i (.i (.o (.o (.o (.i .h))))))))))), none⟩
end Go.Ev

namespace Go.Ev
open Go.Proofs
set_option maxRecDepth 1000000 in
theorem p21_1 : gcX ms21_1 mo21_1 (exec Try.prog fp 100000 (comp Try.prog Try.f21.ntmps (Code.pre 2 (Code.suf 3 c21))) x21_0) = some x21_1 := by kernel_rfl
end Go.Ev

namespace Go.Ev
open Go.Proofs
set_option maxRecDepth 1000000 in
theorem p21_l : lastB Try.prog fp 100000 Try.f21.ntmps (Code.suf 5 c21) x21_1 .h = true := by kernel_rfl
end Go.Ev

namespace Go.Ev
open Go.Proofs
theorem t21 : TrueCall Try.prog 21 := by
  refine TrueCall.of_body (s := .h) (c := c21) Try.func21 (by kernel_rfl) (by kernel_rfl) (by kernel_rfl) ?_
  obtain ⟨e, Z, h1, h2, h3⟩ := last_ok fp_ok p21_l
  exact ⟨e, Z, pieceG_ok fp_ok p21_0 (pieceG_ok fp_ok p21_1 (by rw [show Code.suf 2 (Code.suf 3 c21) = Code.suf 5 c21 from by kernel_rfl]; exact h1)), h2, h3⟩
end Go.Ev
