import Derived.Test.YtpemagogcagipaaEvQB
import Derived.Test.YtpemagogcagipaaEvQA
import Derived.Test.YtpemagogcagipaaEvMA
set_option linter.all false
namespace Go.Ev
open Go.Proofs
def setsE (en : Nat) : Nat → Nat → List Int → List (List Int)
  | 0, _, S => [S]
  | k + 1, next, S => (List.range' next (en - next)).flatMap fun i : Nat => setsE en k (i + 1) (S ++ [(i : Int)])
def allSets (m : Nat) : List (List Int) := (List.range (m + 1)).flatMap fun many => setsE m many 0 []
def wordOf (S : List Int) : Nat := S.foldl (fun w i => w ||| 2 ^ i.toNat) 0
def sortedB : List (List Int) → Bool
  | [] => true
  | a :: l => l.all (fun b => shoR a b && !shoR b a && !shoR b b) && sortedB l
theorem sets_sorted : ∀ m : _root_.Fin 6, sortedB (allSets m.val) = true := by decide +kernel
theorem sets_words : ∀ m : _root_.Fin 6, (allSets m.val).all (fun S => decide (wordOf S < 2 ^ m.val) && (bitL (wordOf S) == S)) = true := by decide +kernel
theorem words_sets : ∀ m : _root_.Fin 6, (List.range (2 ^ m.val)).all (fun b => (allSets m.val).contains (bitL b) && (wordOf (bitL b) == b)) = true := by decide +kernel
theorem sorted_first {p : List Int → Bool} : ∀ {l : List (List Int)}, sortedB l = true → ∀ {S T : List Int}, l.find? p = some S → T ∈ l → p T = true → T = S ∨ (shoR S T = true ∧ shoR T S = false)
  | [], _, S, T, h, _, _ => by cases h
  | a :: l, hs, S, T, h, hT, hp => by
    unfold sortedB at hs
    rw [Bool.and_eq_true, List.all_eq_true] at hs
    by_cases ha : p a = true
    · rw [List.find?_cons_of_pos ha] at h
      cases h
      rcases List.mem_cons.1 hT with rfl | hT
      · exact .inl rfl
      · have := hs.1 T hT
        simp only [Bool.and_eq_true, Bool.not_eq_true'] at this
        exact .inr ⟨this.1.1, this.1.2⟩
    · rw [List.find?_cons_of_neg ha] at h
      rcases List.mem_cons.1 hT with rfl | hT
      · exact absurd hp ha
      · exact sorted_first hs.2 h hT hp
end Go.Ev

namespace Go.Ev
open Go.Proofs
theorem befR_trans : ∀ {A B C : List Int}, befR A B = true → befR B C = true → befR A C = true
  | [], [], _, h, _ => by cases h
  | [], b :: B, [], _, h => by cases h
  | [], b :: B, c :: C, _, _ => rfl
  | a :: A, [], _, h, _ => by cases h
  | a :: A, b :: B, [], _, h => by cases h
  | a :: A, b :: B, c :: C, h1, h2 => by
    unfold befR at h1 h2 ⊢
    by_cases e1 : a = b
    · rw [if_pos e1] at h1
      by_cases e2 : b = c
      · rw [if_pos e2] at h2
        rw [if_pos (e1.trans e2)]
        exact befR_trans h1 h2
      · rw [if_neg e2, decide_eq_true_iff] at h2
        rw [if_neg (by omega), decide_eq_true_iff]
        omega
    · rw [if_neg e1, decide_eq_true_iff] at h1
      by_cases e2 : b = c
      · rw [if_neg (by omega), decide_eq_true_iff]
        omega
      · rw [if_neg e2, decide_eq_true_iff] at h2
        rw [if_neg (by omega), decide_eq_true_iff]
        omega
theorem befR_irr : ∀ A : List Int, befR A A = false
  | [] => rfl
  | a :: A => by
    unfold befR
    rw [if_pos rfl]
    exact befR_irr A
theorem shoR_irr (A : List Int) : shoR A A = false := by
  unfold shoR
  rw [befR_irr, decide_eq_false (Nat.lt_irrefl _), Bool.and_false]
  rfl
theorem shoR_trans {A B C : List Int} (h1 : shoR A B = true) (h2 : shoR B C = true) : shoR A C = true := by
  unfold shoR at *
  rw [Bool.or_eq_true, Bool.and_eq_true, decide_eq_true_iff, decide_eq_true_iff] at *
  rcases h1 with h1 | ⟨h1, k1⟩
  · rcases h2 with h2 | ⟨h2, k2⟩
    · exact .inl (by omega)
    · exact .inl (by omega)
  · rcases h2 with h2 | ⟨h2, k2⟩
    · exact .inl (by omega)
    · exact .inr ⟨by omega, befR_trans k1 k2⟩
theorem lev_first {A : List Nat} {m : Nat} (hm : m ≤ 5) (h0 : canB A 0 = true) : (allSets m).find? (fun S => canB A (2 ^ m - 1 - wordOf S)) = some (levR A m) := by
  have hp := Nat.one_le_two_pow (n := m)
  have inv : ∀ n, n ≤ 2 ^ m → ∃ b0, b0 < 2 ^ m ∧ levJ A m n = bitL b0 ∧ canB A (2 ^ m - 1 - b0) = true ∧ ∀ b, b < n → canB A (2 ^ m - 1 - b) = true → shoR (bitL b) (levJ A m n) = false := fun n => by
    induction n with
    | zero => exact fun _ => ⟨2 ^ m - 1, by omega, rfl, by rw [Nat.sub_self]; exact h0, fun b hb => absurd hb (Nat.not_lt_zero _)⟩
    | succ n ih =>
      intro hn
      obtain ⟨b0, k1, k2, k3, k4⟩ := ih (by omega)
      rw [levJ_succ]
      unfold levF
      by_cases hc : (shoR (bitL n) (levJ A m n) && canB A (2 ^ m - 1 - n)) = true
      · rw [if_pos hc]
        rw [Bool.and_eq_true] at hc
        refine ⟨n, by omega, rfl, hc.2, fun b hb hcb => ?_⟩
        by_cases e : b = n
        · subst e; exact shoR_irr _
        · cases hs : shoR (bitL b) (bitL n) with
          | false => rfl
          | true =>
            have := k4 b (by omega) hcb
            rw [shoR_trans hs hc.1] at this
            cases this
      · rw [if_neg hc]
        refine ⟨b0, k1, k2, k3, fun b hb hcb => ?_⟩
        by_cases e : b = n
        · subst e
          cases hs : shoR (bitL b) (levJ A m b) with
          | false => rfl
          | true => exact absurd (by rw [hs, hcb]; rfl) hc
        · exact k4 b (by omega) hcb
  obtain ⟨b0, k1, k2, k3, k4⟩ := inv (2 ^ m) (Nat.le_refl _)
  have k2 : levR A m = bitL b0 := k2
  have hw := List.all_eq_true.1 (words_sets ⟨m, by omega⟩) b0 (List.mem_range.2 k1)
  rw [Bool.and_eq_true] at hw
  have hmem : bitL b0 ∈ allSets m := List.contains_iff_mem.1 hw.1
  have hwb : wordOf (bitL b0) = b0 := by simpa using hw.2
  have hP : canB A (2 ^ m - 1 - wordOf (bitL b0)) = true := by rw [hwb]; exact k3
  cases hF : (allSets m).find? (fun S => canB A (2 ^ m - 1 - wordOf S)) with
  | none => exact absurd hP (by have := List.find?_eq_none.1 hF _ hmem; exact this)
  | some S0 =>
    have hS0 := List.find?_some hF
    have hS0m := List.mem_of_find?_eq_some hF
    have hq := List.all_eq_true.1 (sets_words ⟨m, by omega⟩) S0 hS0m
    rw [Bool.and_eq_true, decide_eq_true_iff] at hq
    have hq2 : bitL (wordOf S0) = S0 := by simpa using hq.2
    have hno := k4 (wordOf S0) hq.1 hS0
    rw [hq2] at hno
    rcases sorted_first (p := fun S => canB A (2 ^ m - 1 - wordOf S)) (sets_sorted ⟨m, by omega⟩) hF hmem hP with h | ⟨h, _⟩
    · rw [k2, h]
    · have hno : shoR S0 (levR A m) = false := hno
      rw [k2, h] at hno
      cases hno
end Go.Ev

namespace Go.Ev
open Go.Proofs
theorem sets_bits : ∀ m : _root_.Fin 6, (allSets m.val).all (fun S => (List.range m.val).all fun k => (2 ^ m.val - 1 - wordOf S).testBit k == !conR S (k : Int)) = true := by decide +kernel
theorem and_word {b w m : Nat} (hw : w < 2 ^ m) : b &&& w = w ↔ ∀ k, k < m → w.testBit k = true → b.testBit k = true := by
  constructor
  · intro h k _ hk
    have h2 : (b &&& w).testBit k = true := by rw [h]; exact hk
    rw [Nat.testBit_and, Bool.and_eq_true] at h2
    exact h2.1
  · intro h
    refine Nat.eq_of_testBit_eq fun k => ?_
    rw [Nat.testBit_and]
    cases hk : w.testBit k with
    | false => rw [Bool.and_false]
    | true =>
      by_cases hm : k < m
      · rw [h k hm hk]; rfl
      · have : w.testBit k = false := Nat.testBit_lt_two_pow (Nat.lt_of_lt_of_le hw (Nat.pow_le_pow_right (by omega) (by omega)))
        rw [this] at hk
        cases hk
theorem canB_any (L : List (List Int)) (f : List Int → Nat) (w : Nat) : canB (L.map f) w = L.any fun t => decide (f t &&& w = w) := by
  unfold canB
  rw [Bool.eq_iff_iff, List.any_eq_true, List.any_eq_true]
  constructor
  · rintro ⟨i, hi, h⟩
    have hi := List.mem_range.1 hi
    rw [List.length_map] at hi
    refine ⟨L[i], List.getElem_mem hi, ?_⟩
    simpa [List.getD, hi] using h
  · rintro ⟨t, ht, h⟩
    obtain ⟨i, hi, e⟩ := List.mem_iff_getElem.1 ht
    refine ⟨i, List.mem_range.2 (by rw [List.length_map]; exact hi), ?_⟩
    subst e
    simpa [List.getD, hi] using h
theorem woR_all {ms : List Mk} {S : List Int} {p : Mk → Bool} : (woR ms S).all p = true ↔ ∀ k, k < ms.length → conR S (k : Int) = false → p (ms.getD k default) = true := by
  unfold woR woJ
  rw [List.all_eq_true]
  constructor
  · intro h k hk hc
    exact h _ (List.mem_map.2 ⟨k, List.mem_filter.2 ⟨List.mem_range.2 hk, by rw [hc]; rfl⟩, rfl⟩)
  · intro h m hm
    obtain ⟨k, hk, rfl⟩ := List.mem_map.1 hm
    obtain ⟨h1, h2⟩ := List.mem_filter.1 hk
    refine h k (List.mem_range.1 h1) ?_
    simpa using h2
theorem woR_mem {ms : List Mk} {S : List Int} {x : Mk} (h : x ∈ woR ms S) : x ∈ ms := by
  unfold woR woJ at h
  obtain ⟨k, hk, rfl⟩ := List.mem_map.1 h
  exact getD_mem (List.mem_range.1 (List.mem_filter.1 hk).1)
theorem can_fits {last : Int} {hs : List Rg} {step : Int} {lv : List Int} {ms : List Mk} (V : ValidT last hs step lv ms) (hm : manyR hs ≤ 2000) {S : List Int} (hS : S ∈ allSets ms.length) : canB (allR hs step ms) (2 ^ ms.length - 1 - wordOf S) = (exS hs step hs.length 0 zeroS).any fun c => fitsR c (woR ms S) := by
  have h5 := V.ms5
  have hp := Nat.one_le_two_pow (n := ms.length)
  have hb := List.all_eq_true.1 (sets_bits ⟨ms.length, by omega⟩) S hS
  have hbit : ∀ k, k < ms.length → (2 ^ ms.length - 1 - wordOf S).testBit k = !conR S (k : Int) := fun k hk => by
    have := List.all_eq_true.1 hb k (List.mem_range.2 hk)
    simpa using this
  unfold allR
  rw [canB_any, any_lists V.hv hm]
  rw [Bool.eq_iff_iff, List.any_eq_true, List.any_eq_true]
  have key : ∀ t, t ∈ listsR hs step → (decide (markN ms t ms.length &&& (2 ^ ms.length - 1 - wordOf S) = 2 ^ ms.length - 1 - wordOf S) = true ↔ fitsR (wantS t) (woR ms S) = true) := fun t ht => by
    have hl := listed_lenZ ((mem_listsR V.hv hm).1 ht)
    have h10 := V.h10
    rw [decide_eq_true_iff, and_word (m := ms.length) (by omega), fits_right (by omega) fun m hmm => by have := V.vt m (woR_mem hmm); omega]
    rw [woR_all]
    constructor
    · intro h k hk hc
      have h2 := h k hk (by rw [hbit k hk, hc]; rfl)
      unfold markN at h2
      rw [bitsN_test, Bool.and_eq_true] at h2
      exact h2.2
    · intro h k hk hw
      rw [hbit k hk] at hw
      have hc : conR S (k : Int) = false := by simpa using hw
      unfold markN
      rw [bitsN_test, h k hk hc, decide_eq_true hk]
      rfl
  constructor
  · rintro ⟨t, ht, h⟩
    exact ⟨t, ht, (key t ht).1 h⟩
  · rintro ⟨t, ht, h⟩
    exact ⟨t, ht, (key t ht).2 h⟩
end Go.Ev

namespace Go.Ev
open Go.Proofs
def stC (l : List (D × Nat)) : List Cell := l.map fun p => Cell.o p.1 p.2
theorem growK_st {β : Type} (st cur : Nat) (r : List D) : ∀ (l : List (D × Nat)) (k : List Cell → Option β), (∀ p ∈ l, p.2 ≤ st) → growK st cur r l.length (stC l) k = k (stC l ++ r.map fun d => Cell.o d cur)
  | [], k, _ => by
    show shutK (Nat.pred cur) (dropC (List.length r) []) (fun l => consK (fun d => .o d cur) r l k) = _
    rw [dropC_eq, shutK_eq, consK_eq]
    simp [stC]
  | p :: l, k, h => by
    have hp := h p (by simp)
    have e : growK st cur r (p :: l).length (stC (p :: l)) k = (bif Nat.ble p.2 st then growK st cur r l.length (stC l) (fun l' => k (.o p.1 p.2 :: l')) else none) := rfl
    rw [e, Nat.ble_eq_true_of_le hp, cond_true, growK_st st cur r l _ fun x hx => h x (by simp [hx])]
    rfl
section
variable {sl : T D} {ob : T C} {nx : Pos} {lg : Option (T Bool)} {K : X → Prop}
theorem WSt.app_stL {d id idy : Pos} {z st len len' cur curY : Nat} {roY : Bool} {x y : RX} {l : List (D × Nat)} {r : List D} {csX csY : List Cell} {ob2 : T C} (hx : opd sl x = some (.sl id 0 len st z)) (hy : opd sl y = some (.sl idy 0 1 0 z)) (hoy : ob.get idy = some (.cells roY csY curY)) (hcy : csY = r.map fun d => Cell.o d 0) (hr : r.length = z) (hox : ob.get id = some (.cells false csX cur)) (hcx : csX = stC l) (hst : ∀ p ∈ l, p.2 ≤ st) (hds : l.length = len * z) (hlen : len' = len + 1) (hmax : len < 2147483648)
    (hob2 : T.set id (.cells false (stC l ++ r.map fun d => Cell.o d cur) (cur + 1)) ob = ob2) (h : lRK lg idy fun lg => lWK lg id fun lg => wOut sl ob2 nx lg d K (.sl id 0 len' cur z)) : WSt (.app d z x y) ⟨sl, ob, nx, lg⟩ K := by
  obtain ⟨l1, e1, h⟩ := lRK_ex h
  obtain ⟨l2, e2, h⟩ := lWK_ex h
  obtain ⟨h2, h3⟩ := wOut_ok h
  refine ⟨_, ?_, h3⟩
  show s_app d z x y sl ob nx lg = _
  unfold s_app
  rw [hx, hy]
  subst hcy hr hlen hob2 hcx
  have hb : Nat.beq r.length r.length = true := Nat.beq_refl _
  have hrd : readK (β := X) 0 (Nat.mul 1 r.length) (dropC 0 (r.map fun d => Cell.o d 0)) = fun k => k r := by
    rw [dropC_eq, List.drop_zero, show Nat.mul 1 r.length = r.length from Nat.one_mul _]
    have key : ∀ (l : List D) (k : List D → Option X), readK 0 l.length (l.map fun d => Cell.o d 0) k = k l := by
      intro l
      induction l with
      | nil => exact fun k => rfl
      | cons a l ih => exact fun k => ih fun ds => k (a :: ds)
    exact funext fun k => key r k
  simp only [srcK, hb, cond_true, hoy, hrd, logO, e1]
  simp only [hox]
  have hidx : Nat.add 0 (Nat.mul len r.length) = l.length := by rw [hds]; exact Nat.zero_add _
  rw [hidx, growK_st st cur r l _ hst]
  simp only [natK_eq, objOutK, e2, T.setK_eq]
  have e3 : Nat.add len (Nat.succ 0) = len + 1 := rfl
  rw [e3, Nat.ble_eq_true_of_le (show len + 1 ≤ 2147483648 from hmax)]
  exact h2
end
end Go.Ev
