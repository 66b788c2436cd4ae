import Derived.Test.YtjgbfnciedkafaaEvUJb
set_option linter.all false
namespace Go.Ev
open Go.Proofs
set_option maxRecDepth 100000
structure Bk where
  n : Int
  coin : Int
  box : Int
  ls : List Ln
  cs : List Ct
def rngL (lo hi : Int) : List Int := (List.range (hi + 1 - lo).toNat).map fun k : Nat => lo + (k : Int)
theorem rngL_length (lo hi : Int) : (rngL lo hi).length = (hi + 1 - lo).toNat := by simp [rngL]
theorem rngL_at {lo hi : Int} {k : Nat} (h : k < (hi + 1 - lo).toNat) : (rngL lo hi).getD k 0 = lo + (k : Int) := by simp [rngL, List.getD, h]
theorem mem_rngL {lo hi h : Int} : h ∈ rngL lo hi ↔ lo ≤ h ∧ h ≤ hi := by
  unfold rngL
  rw [List.mem_map]
  constructor
  · rintro ⟨k, hk, rfl⟩
    have := List.mem_range.1 hk
    omega
  · rintro ⟨h1, h2⟩
    exact ⟨(h - lo).toNat, List.mem_range.2 (by omega), by omega⟩
def rdsT (n : Int) (l : Ln) (a b : Int) : List Ln := (rngL (tLo l) (tHi n l)).map fun c => ⟨a, b, c⟩
def rdsC (n : Int) (l : Ln) (a : Int) : List Ln := (rngL (cLo l) (cHi n l)).flatMap fun b => rdsT n l a b
def rdsL (n : Int) (l : Ln) : List Ln := (rngL (kLo l) (kHi l)).flatMap fun a => rdsC n l a
theorem mem_rdsL {n : Int} {l x : Ln} : x ∈ rdsL n l ↔ rdB n l x = true := by
  unfold rdsL rdsC rdsT rdB
  rw [decide_eq_true_iff, List.mem_flatMap]
  constructor
  · rintro ⟨a, ha, hx⟩
    obtain ⟨b, hb, hx⟩ := List.mem_flatMap.1 hx
    obtain ⟨c, hc, rfl⟩ := List.mem_map.1 hx
    have ha := mem_rngL.1 ha
    have hb := mem_rngL.1 hb
    have hc := mem_rngL.1 hc
    exact ⟨ha.1, ha.2, hb.1, hb.2, hc.1, hc.2⟩
  · rintro ⟨h1, h2, h3, h4, h5, h6⟩
    exact ⟨x.k, mem_rngL.2 ⟨h1, h2⟩, List.mem_flatMap.2 ⟨x.c, mem_rngL.2 ⟨h3, h4⟩, List.mem_map.2 ⟨x.t, mem_rngL.2 ⟨h5, h6⟩, rfl⟩⟩⟩
def SameTo (i : Nat) (T T' : List Ln) : Prop := ∀ j, j < i → T'.getD j default = T.getD j default
theorem SameTo.symm {i : Nat} {T T' : List Ln} (h : SameTo i T T') : SameTo i T' T := fun j hj => (h j hj).symm
theorem SameTo.le {i j : Nat} {T T' : List Ln} (h : SameTo i T T') (k : j ≤ i) : SameTo j T T' := fun q hq => h q (by omega)
theorem SameTo.app (T : List Ln) (l : Ln) : SameTo T.length T (T ++ [l]) := fun j hj => by
  simp [List.getD, List.getElem?_append_left hj]
theorem app_last (T : List Ln) (l : Ln) : (T ++ [l]).getD T.length default = l := by simp [List.getD]
theorem SameTo.take (T : List Ln) (i : Nat) : SameTo i T (T.take i) := fun j hj => by
  simp [List.getD, List.getElem?_take_of_lt hj]
theorem cOut_same {T T' : List Ln} (c : Int) : ∀ i, SameTo i T T' → cOut T' c i = cOut T c i
  | 0, _ => rfl
  | i + 1, h => by
    have := cOut_same c i (h.le (by omega))
    unfold cOut
    rw [h i (by omega), this]
theorem tOut_same {T T' : List Ln} (c : Int) : ∀ i, SameTo i T T' → tOut T' c i = tOut T c i
  | 0, _ => rfl
  | i + 1, h => by
    have := tOut_same c i (h.le (by omega))
    unfold tOut
    rw [h i (by omega), this]
theorem monR_same {box coin : Int} {T T' : List Ln} : ∀ i, SameTo i T T' → monR box coin T' i = monR box coin T i
  | 0, _ => rfl
  | i + 1, h => by
    have := monR_same (box := box) (coin := coin) i (h.le (by omega))
    unfold monR
    rw [h i (by omega), this]
theorem mixR_same {T T' : List Ln} : ∀ i, SameTo i T T' → mixR T' i = mixR T i
  | 0, _ => rfl
  | i + 1, h => by
    have := mixR_same i (h.le (by omega))
    unfold mixR
    rw [h i (by omega), this, cOut_same _ i (h.le (by omega)), tOut_same _ i (h.le (by omega))]
theorem moR_same {box coin : Int} {T T' : List Ln} {i : Nat} (h : SameTo i T T') : moR box coin T' i = moR box coin T i := by
  unfold moR
  rw [monR_same i h, mixR_same i h]
  simp only [cOut_same _ i h, tOut_same _ i h]
  cases i with
  | zero => rfl
  | succ i => simp only [h i (by omega)]
theorem pos1_same {T T' : List Ln} {i : Nat} (h : SameTo (i + 1) T T') : pos1 T' i = pos1 T i := by
  unfold pos1
  rw [h i (by omega), cOut_same _ i (h.le (by omega)), tOut_same _ i (h.le (by omega))]
def stp (B : Bk) (T : List Ln) : List (List Ln) := ((rdsL B.n (B.ls.getD T.length default)).filter fun l => pos1 (T ++ [l]) T.length).map fun l => T ++ [l]
def rT (B : Bk) (T : List Ln) : Bool := rightB B.cs (moR B.box B.coin T T.length)
def canT (B : Bk) : Nat → List Ln → Bool
  | 0, T => rT B T
  | k + 1, T => rT B T && (stp B T).any (canT B k)
def exT (B : Bk) : Nat → List Ln → List (List Ln)
  | 0, T => bif canT B 0 T then [T] else []
  | k + 1, T => bif canT B (k + 1) T then (stp B T).flatMap (exT B k) else []
structure Ext (B : Bk) (k : Nat) (T X : List Ln) : Prop where
  pre : X.take T.length = T
  len : X.length = T.length + k
  st : ∀ i, T.length ≤ i → i < X.length → rdB B.n (B.ls.getD i default) (X.getD i default) = true ∧ pos1 X i = true
  rt : ∀ i, T.length ≤ i → i ≤ X.length → rightB B.cs (moR B.box B.coin X i) = true
theorem Ext.same {B : Bk} {k : Nat} {T X : List Ln} (h : Ext B k T X) : SameTo T.length X T := by
  have := SameTo.take X T.length
  rw [h.pre] at this
  exact this
theorem ext_zero {B : Bk} {T X : List Ln} : Ext B 0 T X ↔ X = T ∧ rT B T = true := by
  constructor
  · intro h
    have hx : X = T := by
      have := h.pre
      rw [List.take_of_length_le (by rw [h.len]; omega)] at this
      exact this
    subst hx
    exact ⟨rfl, h.rt _ (Nat.le_refl _) (Nat.le_refl _)⟩
  · rintro ⟨rfl, h⟩
    refine ⟨List.take_length, rfl, fun i h1 h2 => by omega, fun i h1 h2 => ?_⟩
    rw [show i = X.length by omega]; exact h
theorem ext_succ {B : Bk} {k : Nat} {T X : List Ln} : Ext B (k + 1) T X ↔ rT B T = true ∧ ∃ T' ∈ stp B T, Ext B k T' X := by
  constructor
  · intro h
    have hs := h.same
    have hlen := h.len
    refine ⟨?_, X.take (T.length + 1), ?_, ?_, ?_, ?_, ?_⟩
    · have := h.rt _ (Nat.le_refl _) (by omega)
      rw [← moR_same (T' := T) hs] at this
      exact this
    · unfold stp
      have hlt : T.length < X.length := by omega
      obtain ⟨h1, h2⟩ := h.st _ (Nat.le_refl _) hlt
      have he : X.take (T.length + 1) = T ++ [X.getD T.length default] := by
        rw [take_succ_getD (d := default) hlt, h.pre]
      refine List.mem_map.2 ⟨X.getD T.length default, List.mem_filter.2 ⟨mem_rdsL.2 h1, ?_⟩, he.symm⟩
      have : SameTo (T.length + 1) X (T ++ [X.getD T.length default]) := by rw [← he]; exact SameTo.take _ _
      rw [← h2]
      exact pos1_same this
    · rw [List.length_take, Nat.min_eq_left (by omega)]
    · rw [List.length_take, Nat.min_eq_left (by omega)]; omega
    · intro i h1 h2
      rw [List.length_take, Nat.min_eq_left (by omega)] at h1
      exact h.st i (by omega) h2
    · intro i h1 h2
      rw [List.length_take, Nat.min_eq_left (by omega)] at h1
      exact h.rt i (by omega) h2
  · rintro ⟨hr, T', hT, h⟩
    unfold stp at hT
    obtain ⟨l, hl, rfl⟩ := List.mem_map.1 hT
    obtain ⟨hl1, hl2⟩ := List.mem_filter.1 hl
    have hsame := h.same
    have hlen := h.len
    have hla : (T ++ [l]).length = T.length + 1 := by simp
    rw [hla] at hlen hsame
    have hsT : SameTo T.length X T := fun j hj => by
      rw [← hsame j (by omega), SameTo.app T l j hj]
    refine ⟨?_, by omega, fun i h1 h2 => ?_, fun i h1 h2 => ?_⟩
    · have := h.pre
      rw [hla] at this
      have h2 := congrArg (List.take T.length) this
      rw [List.take_take, Nat.min_eq_left (by omega), List.take_left'] at h2
      · exact h2
      · rfl
    · by_cases e : i = T.length
      · subst e
        have hx : X.getD T.length default = l := by rw [← hsame _ (by omega), app_last]
        refine ⟨by rw [hx]; exact mem_rdsL.1 hl1, ?_⟩
        exact (pos1_same hsame).symm.trans hl2
      · exact h.st i (by rw [hla]; omega) h2
    · by_cases e : i = T.length
      · subst e
        rw [← moR_same (T' := T) hsT]
        exact hr
      · exact h.rt i (by rw [hla]; omega) h2
theorem can_iff {B : Bk} : ∀ {k : Nat} {T : List Ln}, canT B k T = true ↔ ∃ X, Ext B k T X
  | 0, T => by
    show rT B T = true ↔ _
    constructor
    · intro h; exact ⟨T, ext_zero.2 ⟨rfl, h⟩⟩
    · rintro ⟨X, h⟩; exact (ext_zero.1 h).2
  | k + 1, T => by
    show (rT B T && (stp B T).any (canT B k)) = true ↔ _
    rw [Bool.and_eq_true, List.any_eq_true]
    constructor
    · rintro ⟨h1, T', h2, h3⟩
      obtain ⟨X, h4⟩ := can_iff.1 h3
      exact ⟨X, ext_succ.2 ⟨h1, T', h2, h4⟩⟩
    · rintro ⟨X, h⟩
      obtain ⟨h1, T', h2, h3⟩ := ext_succ.1 h
      exact ⟨h1, T', h2, can_iff.2 ⟨X, h3⟩⟩
theorem mem_exT {B : Bk} : ∀ {k : Nat} {T X : List Ln}, X ∈ exT B k T ↔ Ext B k T X
  | 0, T, X => by
    unfold exT
    rw [ext_zero]
    show X ∈ (bif rT B T then [T] else []) ↔ _
    cases h : rT B T with
    | true => simp
    | false => simp
  | k + 1, T, X => by
    unfold exT
    cases h : canT B (k + 1) T with
    | false =>
      simp only [cond_false, List.not_mem_nil, false_iff]
      intro hx
      have := can_iff.2 ⟨X, hx⟩
      rw [h] at this; cases this
    | true =>
      simp only [cond_true]
      rw [List.mem_flatMap, ext_succ]
      have hr : rT B T = true := by
        have h : (rT B T && (stp B T).any (canT B k)) = true := h
        rw [Bool.and_eq_true] at h
        exact h.1
      constructor
      · rintro ⟨T', h1, h2⟩; exact ⟨hr, T', h1, mem_exT.1 h2⟩
      · rintro ⟨_, T', h1, h2⟩; exact ⟨T', h1, mem_exT.2 h2⟩
def okT (B : Bk) (T : List Ln) : Prop := ∀ i, i < T.length → rdB B.n (B.ls.getD i default) (T.getD i default) = true ∧ pos1 T i = true
theorem okT.nil (B : Bk) : okT B [] := fun i h => absurd h (Nat.not_lt_zero _)
theorem okT.step {B : Bk} {T T' : List Ln} (h : okT B T) (hT : T' ∈ stp B T) : okT B T' ∧ T'.length = T.length + 1 := by
  unfold stp at hT
  obtain ⟨l, hl, rfl⟩ := List.mem_map.1 hT
  obtain ⟨hl1, hl2⟩ := List.mem_filter.1 hl
  refine ⟨fun i hi => ?_, by simp⟩
  rw [List.length_append, List.length_singleton] at hi
  by_cases e : i = T.length
  · subst e
    rw [app_last]
    exact ⟨mem_rdsL.1 hl1, hl2⟩
  · have hlt : i < T.length := by omega
    rw [SameTo.app T l i hlt, pos1_same ((SameTo.app T l).le (by omega))]
    exact h i hlt
def flT (T : List Ln) (q : Nat) : Bool := if q < 4 then decide (0 ≤ cOut T (q : Int) T.length) else decide (0 ≤ tOut T ((q - 4 : Nat) : Int) T.length)
def b2i (b : Bool) : Int := bif b then 1 else 0
def osg (n : Int) : Int := if 0 ≤ n then 1 else 0
def cntO (T : List Ln) (i : Nat) : Int := osg (cOut T 0 i) + osg (cOut T 1 i) + osg (cOut T 2 i) + osg (cOut T 3 i)
def cntP (T : List Ln) (i : Nat) : Int := osg (tOut T 0 i) + osg (tOut T 1 i) + osg (tOut T 2 i) + osg (tOut T 3 i)
theorem osg_b (n : Int) : osg n = b2i (decide (0 ≤ n)) := by
  unfold osg b2i
  by_cases h : 0 ≤ n <;> simp [h]
theorem osg_step (f : Int → Int) (c k : Int) (i : Nat) (hc : 0 ≤ c ∧ c ≤ 3) (hk : k = 1 ∨ k = 2) (h : decide (0 ≤ f c) = decide (k = 2)) :
    osg (if c = 0 then (if k = 1 then (i : Int) else -1) else f 0) + osg (if c = 1 then (if k = 1 then (i : Int) else -1) else f 1) + osg (if c = 2 then (if k = 1 then (i : Int) else -1) else f 2) + osg (if c = 3 then (if k = 1 then (i : Int) else -1) else f 3) = if k = 1 then osg (f 0) + osg (f 1) + osg (f 2) + osg (f 3) + 1 else osg (f 0) + osg (f 1) + osg (f 2) + osg (f 3) - 1 := by
  have h0 : osg (i : Int) = 1 := if_pos (by omega)
  have h1 : osg (-1) = 0 := if_neg (by omega)
  have hf : osg (f c) = if k = 1 then 0 else 1 := by
    rw [osg_b, h]
    rcases hk with rfl | rfl <;> rfl
  have : c = 0 ∨ c = 1 ∨ c = 2 ∨ c = 3 := by omega
  rcases this with rfl | rfl | rfl | rfl <;> rcases hk with rfl | rfl <;> simp [h0, h1] at hf ⊢ <;> omega
structure VB (B : Bk) : Prop where
  n : 1 ≤ B.n ∧ B.n ≤ 4
  coin : 1 ≤ B.coin ∧ B.coin ≤ 99
  box : 0 ≤ B.box ∧ B.box ≤ 999
  len : B.ls.length ≤ 8
  clen : B.cs.length ≤ 4
  ls : B.ls.all (lnOk B.n) = true
  cs : ∀ c ∈ B.cs, 0 ≤ c.a ∧ c.a ≤ B.ls.length
  many : manyR B.n B.ls ≤ 4096
def B5 (n coin box : Int) (ls : List Ln) (cs : List Ct) : Bk := ⟨n, coin, box, ls, cs⟩
theorem VB.of {n coin box : Int} {ls : List Ln} {cs : List Ct} (h : faultT n coin box ls cs = 0) : VB (B5 n coin box ls cs) := by
  obtain ⟨f1, f2, f3, f4⟩ := fault_okT h
  unfold vldT at f3
  simp only [Bool.and_eq_true] at f3
  obtain ⟨v1, v2, v3, v4, v5⟩ := f3
  exact ⟨inR_iff.1 v1, inR_iff.1 v2, inR_iff.1 v3, f1, f2, v4, fun c hc => by
    have := List.all_eq_true.1 v5 c hc
    unfold ctOk at this
    rw [Bool.and_eq_true] at this
    exact inR_iff.1 this.1, f4⟩
theorem VB.ln {B : Bk} (V : VB B) {i : Nat} (h : i < B.ls.length) : (0 ≤ (B.ls.getD i default).k ∧ (B.ls.getD i default).k ≤ 2) ∧ (-1 ≤ (B.ls.getD i default).c ∧ (B.ls.getD i default).c ≤ 3) ∧ (-1 ≤ (B.ls.getD i default).t ∧ (B.ls.getD i default).t ≤ 3) := by
  have hok := List.all_eq_true.1 V.ls _ (getD_mem (d := default) h)
  unfold lnOk at hok
  simp only [Bool.and_eq_true, inR_iff] at hok
  have := V.n
  omega
theorem VB.rd {B : Bk} (V : VB B) {i : Nat} (h : i < B.ls.length) {x : Ln} (hx : rdB B.n (B.ls.getD i default) x = true) : (x.k = 1 ∨ x.k = 2) ∧ (0 ≤ x.c ∧ x.c ≤ 3) ∧ (0 ≤ x.t ∧ x.t ≤ 3) := by
  obtain ⟨h1, h2, h3⟩ := V.ln h
  exact rdB_bd V.n h1 h2 h3 hx
theorem cOut_step (T : List Ln) (c : Int) (i : Nat) : cOut T c (i + 1) = if (T.getD i default).c = c then (if (T.getD i default).k = 1 then (i : Int) else -1) else cOut T c i := rfl
theorem tOut_step (T : List Ln) (c : Int) (i : Nat) : tOut T c (i + 1) = if (T.getD i default).t = c then (if (T.getD i default).k = 1 then (i : Int) else -1) else tOut T c i := rfl
theorem mon_cnt {B : Bk} (V : VB B) {T : List Ln} (h : okT B T) (hl : T.length ≤ B.ls.length) : ∀ i, i ≤ T.length → monR B.box B.coin T i = B.box + B.coin * cntO T i ∧ cntO T i = cntP T i
  | 0, _ => by
    refine ⟨?_, rfl⟩
    show B.box = B.box + B.coin * 0
    omega
  | i + 1, hi => by
    obtain ⟨ih1, ih2⟩ := mon_cnt V h hl i (by omega)
    obtain ⟨h1, h2⟩ := h i (by omega)
    obtain ⟨hk, hc, ht⟩ := V.rd (by omega) h1
    unfold pos1 at h2
    rw [Bool.and_eq_true, beq_iff_eq, beq_iff_eq] at h2
    obtain ⟨p1, p2⟩ := h2
    have hm : monR B.box B.coin T (i + 1) = if (T.getD i default).k = 1 then monR B.box B.coin T i + B.coin else monR B.box B.coin T i - B.coin := rfl
    have hO : cntO T (i + 1) = if (T.getD i default).k = 1 then cntO T i + 1 else cntO T i - 1 := osg_step (fun c => cOut T c i) _ _ i hc hk p1
    have hP : cntP T (i + 1) = if (T.getD i default).k = 1 then cntP T i + 1 else cntP T i - 1 := osg_step (fun c => tOut T c i) _ _ i ht hk p2
    rw [hm, hO, hP, ih1, ih2]
    refine ⟨?_, rfl⟩
    split
    · rw [Int.mul_add]; omega
    · rw [Int.mul_sub]; omega
theorem fl_step {T : List Ln} {l : Ln} (hc : 0 ≤ l.c ∧ l.c ≤ 3) (ht : 0 ≤ l.t ∧ l.t ≤ 3) (q : Nat) : flT (T ++ [l]) q = if q < 4 then (if l.c = (q : Int) then decide (l.k = 1) else flT T q) else (if l.t = ((q - 4 : Nat) : Int) then decide (l.k = 1) else flT T q) := by
  unfold flT
  rw [List.length_append, List.length_singleton, cOut_step, tOut_step, app_last, cOut_same _ _ (SameTo.app T l), tOut_same _ _ (SameTo.app T l)]
  by_cases hq : q < 4
  · simp only [if_pos hq]
    by_cases h1 : l.c = (q : Int)
    · rw [if_pos h1, if_pos h1]
      by_cases h2 : l.k = 1
      · rw [if_pos h2]; simp [h2]
      · rw [if_neg h2]; simp [h2]
    · rw [if_neg h1, if_neg h1]
  · simp only [if_neg hq]
    by_cases h1 : l.t = ((q - 4 : Nat) : Int)
    · rw [if_pos h1, if_pos h1]
      by_cases h2 : l.k = 1
      · rw [if_pos h2]; simp [h2]
      · rw [if_neg h2]; simp [h2]
    · rw [if_neg h1, if_neg h1]
theorem pos1_fl {T : List Ln} {l : Ln} (hc : 0 ≤ l.c ∧ l.c ≤ 3) (ht : 0 ≤ l.t ∧ l.t ≤ 3) : pos1 (T ++ [l]) T.length = ((flT T l.c.toNat == decide (l.k = 2)) && (flT T (4 + l.t.toNat) == decide (l.k = 2))) := by
  unfold pos1 flT
  rw [app_last, cOut_same _ _ (SameTo.app T l), tOut_same _ _ (SameTo.app T l), if_pos (by omega), if_neg (by omega)]
  rw [show ((l.c.toNat : Nat) : Int) = l.c by omega, show ((4 + l.t.toNat - 4 : Nat) : Int) = l.t by omega]
theorem cnt_fl (T : List Ln) : cntO T T.length = b2i (flT T 0) + b2i (flT T 1) + b2i (flT T 2) + b2i (flT T 3) := by
  unfold cntO
  simp only [osg_b]
  rfl
theorem rT_pt {B : Bk} (V : VB B) {T T' : List Ln} (h : okT B T) (h' : okT B T') (hl : T'.length = T.length) (hb : T.length ≤ B.ls.length) (hf : ∀ q, q < 8 → flT T' q = flT T q) : rT B T' = rT B T := by
  have e1 := (mon_cnt V h hb T.length (Nat.le_refl _)).1
  have e2 := (mon_cnt V h' (by omega) T'.length (Nat.le_refl _)).1
  have hm : monR B.box B.coin T' T'.length = monR B.box B.coin T T.length := by
    rw [e1, e2, cnt_fl, cnt_fl, hf 0 (by omega), hf 1 (by omega), hf 2 (by omega), hf 3 (by omega)]
  show rightB B.cs (moR B.box B.coin T' T'.length) = rightB B.cs (moR B.box B.coin T T.length)
  unfold rightB
  show (B.cs.all fun c => !decide (c.a = ((T'.length : Nat) : Int)) || inR (monR B.box B.coin T' T'.length) c.lo c.hi) = B.cs.all fun c => !decide (c.a = ((T.length : Nat) : Int)) || inR (monR B.box B.coin T T.length) c.lo c.hi
  rw [hm, hl]
theorem can_pt {B : Bk} (V : VB B) : ∀ (k : Nat) {T T' : List Ln}, okT B T → okT B T' → T'.length = T.length → T.length + k = B.ls.length → (∀ q, q < 8 → flT T' q = flT T q) → canT B k T' = canT B k T
  | 0, T, T', h, h', hl, hk, hf => rT_pt V h h' hl (by omega) hf
  | k + 1, T, T', h, h', hl, hk, hf => by
    have hr := rT_pt V h h' hl (by omega) hf
    show (rT B T' && (stp B T').any (canT B k)) = (rT B T && (stp B T).any (canT B k))
    rw [hr]
    congr 1
    have key : ∀ l ∈ rdsL B.n (B.ls.getD T.length default), (pos1 (T' ++ [l]) T'.length = pos1 (T ++ [l]) T.length) ∧ (pos1 (T ++ [l]) T.length = true → canT B k (T' ++ [l]) = canT B k (T ++ [l])) := fun l hl' => by
      obtain ⟨_, hc, ht⟩ := V.rd (by omega) (mem_rdsL.1 hl')
      have hp : pos1 (T' ++ [l]) T'.length = pos1 (T ++ [l]) T.length := by rw [pos1_fl hc ht, pos1_fl hc ht, hf _ (by omega), hf _ (by omega)]
      refine ⟨hp, fun hq => can_pt V k ?_ ?_ (by simp [hl]) (by simp; omega) (fun q hq => by rw [fl_step hc ht, fl_step hc ht, hf q hq])⟩
      · exact (h.step (List.mem_map.2 ⟨l, List.mem_filter.2 ⟨hl', hq⟩, rfl⟩)).1
      · exact (h'.step (List.mem_map.2 ⟨l, List.mem_filter.2 ⟨by rw [hl]; exact hl', hp.trans hq⟩, rfl⟩)).1
    rw [Bool.eq_iff_iff, List.any_eq_true, List.any_eq_true]
    unfold stp
    rw [hl]
    constructor
    · rintro ⟨x, hx, hc⟩
      obtain ⟨l, hl', rfl⟩ := List.mem_map.1 hx
      obtain ⟨h1, h2⟩ := List.mem_filter.1 hl'
      have h2 : pos1 (T' ++ [l]) T.length = true := h2
      rw [← hl] at h2
      obtain ⟨k1, k2⟩ := key l h1
      rw [k1] at h2
      exact ⟨T ++ [l], List.mem_map.2 ⟨l, List.mem_filter.2 ⟨h1, h2⟩, rfl⟩, by rw [← k2 h2]; exact hc⟩
    · rintro ⟨x, hx, hc⟩
      obtain ⟨l, hl', rfl⟩ := List.mem_map.1 hx
      obtain ⟨h1, h2⟩ := List.mem_filter.1 hl'
      have h2 : pos1 (T ++ [l]) T.length = true := h2
      obtain ⟨k1, k2⟩ := key l h1
      refine ⟨T' ++ [l], List.mem_map.2 ⟨l, List.mem_filter.2 ⟨h1, ?_⟩, rfl⟩, by rw [k2 h2]; exact hc⟩
      show pos1 (T' ++ [l]) T.length = true
      rw [← hl, k1, h2]
theorem ext_fits {B : Bk} (V : VB B) {X : List Ln} : Ext B B.ls.length [] X ↔ fitsB B.n B.coin B.box B.ls B.cs X = true := by
  have hfr := follow_ref (T := X) V.n V.ls
  have hfit : fitsB B.n B.coin B.box B.ls B.cs X = (followB B.n B.ls X && cntB B.box B.coin B.cs X) := by
    unfold fitsB
    rw [hfr, Bool.and_assoc]
  have hright : ∀ (hl : X.length = B.ls.length), (moL (moF B.box B.coin X X.length) (X.length + 1)).all (rightB B.cs) = cntB B.box B.coin B.cs X := fun hl => right_ref fun c hc => by
    have := V.cs c hc
    omega
  rw [hfit, Bool.and_eq_true]
  constructor
  · intro h
    have hl : X.length = B.ls.length := by have := h.len; simpa using this
    refine ⟨?_, ?_⟩
    · unfold followB
      rw [Bool.and_eq_true, decide_eq_true_iff, List.all_eq_true]
      refine ⟨hl, fun q hq => ?_⟩
      have hq := List.mem_range.1 hq
      obtain ⟨h1, h2⟩ := h.st q (Nat.zero_le _) hq
      rw [h1, h2]; rfl
    · rw [← hright hl, List.all_eq_true]
      intro m hm
      unfold moL at hm
      obtain ⟨q, hq, rfl⟩ := List.mem_map.1 hm
      have hq := List.mem_range.1 hq
      rw [moF_le (by omega)]
      exact h.rt q (Nat.zero_le _) (by omega)
  · rintro ⟨h1, h2⟩
    unfold followB at h1
    rw [Bool.and_eq_true, decide_eq_true_iff, List.all_eq_true] at h1
    obtain ⟨hl, h1⟩ := h1
    refine ⟨rfl, by simpa using hl, fun i _ hi => ?_, fun i _ hi => ?_⟩
    · have := h1 i (List.mem_range.2 hi)
      rw [Bool.and_eq_true] at this
      exact this
    · rw [← hright hl, List.all_eq_true] at h2
      have := h2 (moF B.box B.coin X X.length i) (List.mem_map.2 ⟨i, List.mem_range.2 (by omega), rfl⟩)
      rw [moF_le (by omega)] at this
      exact this
end Go.Ev
