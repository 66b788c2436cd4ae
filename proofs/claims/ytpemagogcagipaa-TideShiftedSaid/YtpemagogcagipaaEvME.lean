import Derived.Test.YtpemagogcagipaaEvMD
set_option linter.all false
namespace Go.Ev
open Go.Proofs
set_option maxRecDepth 100000
def updS (c : Nat → Int) (k : Nat) (v : Int) (i : Nat) : Int := bif Nat.beq i k then v else c i
theorem updS_eq (c : Nat → Int) (k : Nat) (v : Int) : updS c k v k = v := by simp [updS]
theorem updS_ne (c : Nat → Int) {k i : Nat} (v : Int) (h : i ≠ k) : updS c k v i = c i := by
  unfold updS
  rw [show Nat.beq i k = false from by
    cases e : Nat.beq i k with
    | false => rfl
    | true => exact absurd (Nat.eq_of_beq_eq_true e) h]
  rfl
def zeroS : Nat → Int := fun _ => 0
def Hb (c : Nat → Int) : Prop := ∀ i, 0 ≤ c i ∧ c i ≤ 99
theorem Hb.upd {c : Nat → Int} (h : Hb c) {p : Nat} {v : Int} (h0 : 0 ≤ v) (h1 : v ≤ 99) : Hb (updS c p v) := fun i => by
  by_cases e : i = p
  · subst e; rw [updS_eq]; exact ⟨h0, h1⟩
  · rw [updS_ne _ _ e]; exact h i
theorem Hb.zero : Hb zeroS := fun _ => by unfold zeroS; omega
def loP (hs : List Rg) (step : Int) (p : Nat) (c : Nat → Int) : Int :=
  match p with
  | 0 => (hs.getD 0 default).lo
  | q + 1 => max (hs.getD (q + 1) default).lo (c q - step)
def hiP (hs : List Rg) (step : Int) (p : Nat) (c : Nat → Int) : Int :=
  match p with
  | 0 => (hs.getD 0 default).hi
  | q + 1 => min (hs.getD (q + 1) default).hi (c q + step)
def htsL (lo hi : Int) : List Int := (List.range (hi + 1 - lo).toNat).map fun k : Nat => lo + (k : Int)
theorem htsL_length (lo hi : Int) : (htsL lo hi).length = (hi + 1 - lo).toNat := by simp [htsL]
theorem htsL_at {lo hi : Int} {k : Nat} (h : k < (hi + 1 - lo).toNat) : (htsL lo hi).getD k 0 = lo + (k : Int) := by simp [htsL, List.getD, h]
theorem mem_htsL {lo hi h : Int} : h ∈ htsL lo hi ↔ lo ≤ h ∧ h ≤ hi := by
  unfold htsL
  rw [List.mem_map]
  constructor
  · rintro ⟨k, hk, rfl⟩
    have := List.mem_range.1 hk
    omega
  · rintro ⟨h1, h2⟩
    exact ⟨(h - lo).toNat, List.mem_range.2 (by omega), by omega⟩
def exS (hs : List Rg) (step : Int) : Nat → Nat → (Nat → Int) → List (Nat → Int)
  | 0, _, c => [c]
  | m + 1, p, c => (htsL (loP hs step p c) (hiP hs step p c)).flatMap fun h => exS hs step m (p + 1) (updS c p h)
theorem loP_congr {hs : List Rg} {step : Int} {p : Nat} {c c' : Nat → Int} (h : ∀ i, i < p → c' i = c i) : loP hs step p c' = loP hs step p c ∧ hiP hs step p c' = hiP hs step p c := by
  cases p with
  | zero => exact ⟨rfl, rfl⟩
  | succ q =>
    have e := h q (by omega)
    refine ⟨?_, ?_⟩
    · show max _ (c' q - step) = max _ (c q - step)
      rw [e]
    · show min _ (c' q + step) = min _ (c q + step)
      rw [e]
theorem exS_congr (hs : List Rg) (step : Int) : ∀ m p (c c' : Nat → Int), (∀ i, (i < p ∨ p + m ≤ i) → c' i = c i) → exS hs step m p c' = exS hs step m p c
  | 0, p, c, c', h => by
    have : c' = c := funext fun i => h i (by omega)
    rw [this]
  | m + 1, p, c, c', h => by
    obtain ⟨h1, h2⟩ := loP_congr (hs := hs) (step := step) (p := p) (c := c) (c' := c') fun i hi => h i (.inl hi)
    have key : ∀ k, exS hs step m (p + 1) (updS c' p k) = exS hs step m (p + 1) (updS c p k) := fun k => exS_congr hs step m (p + 1) _ _ fun i hi => by
      by_cases e : i = p
      · subst e; rw [updS_eq, updS_eq]
      · rw [updS_ne _ _ e, updS_ne _ _ e, h i (by omega)]
    unfold exS
    rw [h1, h2]
    simp only [key]
def FitS (hs : List Rg) (step : Int) (m p : Nat) (c x : Nat → Int) : Prop :=
  (∀ i, (i < p ∨ p + m ≤ i) → x i = c i) ∧ ∀ i, p ≤ i → i < p + m → loP hs step i x ≤ x i ∧ x i ≤ hiP hs step i x
theorem mem_exS (hs : List Rg) (step : Int) : ∀ m p (c x : Nat → Int), x ∈ exS hs step m p c ↔ FitS hs step m p c x
  | 0, p, c, x => by
    unfold exS FitS
    rw [List.mem_singleton]
    exact ⟨fun h => ⟨fun i _ => by rw [h], fun i h1 h2 => by omega⟩, fun h => funext fun i => h.1 i (by omega)⟩
  | m + 1, p, c, x => by
    have e : exS hs step (m + 1) p c = (htsL (loP hs step p c) (hiP hs step p c)).flatMap fun h => exS hs step m (p + 1) (updS c p h) := rfl
    rw [e, List.mem_flatMap]
    constructor
    · rintro ⟨h, hh, hx⟩
      obtain ⟨q1, q2⟩ := (mem_exS hs step m (p + 1) _ x).1 hx
      have hb := mem_htsL.1 hh
      have hxp : x p = h := by rw [q1 p (by omega), updS_eq]
      have hlt : ∀ i, i < p → x i = c i := fun i hi => by rw [q1 i (by omega), updS_ne _ _ (by omega)]
      obtain ⟨l1, l2⟩ := loP_congr (hs := hs) (step := step) (p := p) (c := c) (c' := x) hlt
      refine ⟨fun i hi => ?_, fun i h1 h2 => ?_⟩
      · rw [q1 i (by omega), updS_ne _ _ (by omega)]
      · by_cases e : i = p
        · subst e; rw [l1, l2, hxp]; exact hb
        · exact q2 i (by omega) (by omega)
    · rintro ⟨q1, q2⟩
      have hlt : ∀ i, i < p → x i = c i := fun i hi => q1 i (by omega)
      obtain ⟨l1, l2⟩ := loP_congr (hs := hs) (step := step) (p := p) (c := c) (c' := x) hlt
      have hp := q2 p (by omega) (by omega)
      rw [l1, l2] at hp
      refine ⟨x p, mem_htsL.2 hp, (mem_exS hs step m (p + 1) _ x).2 ⟨fun i hi => ?_, fun i h1 h2 => q2 i (by omega) (by omega)⟩⟩
      by_cases e : i = p
      · subst e; rw [updS_eq]
      · rw [updS_ne _ _ e, q1 i (by omega)]
def szs : List Rg → Nat
  | [] => 1
  | r :: hs => (szR r).toNat * szs hs
theorem flatMap_len {α β : Type} (f : α → List β) (n : Nat) : ∀ (l : List α), (∀ x ∈ l, (f x).length ≤ n) → (l.flatMap f).length ≤ l.length * n
  | [], _ => by simp
  | a :: l, h => by
    have h1 := h a (by simp)
    have h2 := flatMap_len f n l fun x hx => h x (by simp [hx])
    rw [List.flatMap_cons, List.length_append, List.length_cons, Nat.add_mul]
    omega
theorem exS_len (hs : List Rg) (step : Int) : ∀ m p (c : Nat → Int), p + m = hs.length → (exS hs step m p c).length ≤ szs (hs.drop p)
  | 0, p, c, h => by
    rw [List.drop_eq_nil_of_le (by omega)]
    exact Nat.le_refl _
  | m + 1, p, c, h => by
    have hd : hs.drop p = hs.getD p default :: hs.drop (p + 1) := by
      rw [List.drop_eq_getElem_cons (by omega)]
      simp [List.getD, show p < hs.length by omega]
    rw [hd]
    have h1 := flatMap_len (fun h => exS hs step m (p + 1) (updS c p h)) (szs (hs.drop (p + 1))) (htsL (loP hs step p c) (hiP hs step p c)) fun x _ => exS_len hs step m (p + 1) _ (by omega)
    refine Nat.le_trans h1 (Nat.mul_le_mul_right _ ?_)
    rw [htsL_length]
    unfold szR
    cases p with
    | zero =>
      show ((hs.getD 0 default).hi + 1 - (hs.getD 0 default).lo).toNat ≤ _
      omega
    | succ q =>
      show (min (hs.getD (q + 1) default).hi (c q + step) + 1 - max (hs.getD (q + 1) default).lo (c q - step)).toNat ≤ _
      omega
theorem szs_prod : ∀ (hs : List Rg) (n : Int), Vr hs → hs.foldl (fun n r => n * szR r) n = n * (szs hs : Int)
  | [], n, _ => by simp [szs]
  | r :: hs, n, h => by
    have hz := h.sz (r := r) (by simp)
    rw [List.foldl_cons, szs_prod hs _ fun x hx => h x (by simp [hx])]
    show n * szR r * _ = n * (((szR r).toNat * szs hs : Nat) : Int)
    rw [Int.natCast_mul, Int.toNat_of_nonneg (by omega), Int.mul_assoc]
theorem szs_eq {hs : List Rg} (h : Vr hs) : prodR hs = (szs hs : Int) := by
  unfold prodR
  rw [szs_prod hs 1 h, Int.one_mul]
structure Sns (σ : Type) where
  o1 : σ → Option C
  o2 : σ → Option C
  o3 : σ → Option C
  o4 : σ → Option C
  o10 : σ → Option C
  nx : σ → Pos
  step : σ → (Nat → Int) → σ
  goes : σ → (Nat → Int) → Bool
def trS (x1 x2 x3 x4 x5 x6 x7 x10 : Option C) : T C := .n (.n (.n .e x4 .e) x2 (.n (.n .e x10 .e) x6 .e)) x1 (.n (.n .e x5 .e) x3 (.n .e x7 .e))
def Sns.ob {σ : Type} (S : Sns σ) (row : List D) (s : σ) (c : Nat → Int) : T C := trS (S.o1 s) (S.o2 s) (S.o3 s) (S.o4 s) (some (.cells false [.o (.yl (.o (.o .h))) 0] 1)) (some (seC c)) (some (.cells false [.o (.fn p107 [] [.pl row 0, .pt (.i (.o .h)) 0 0, .pt (.o (.i .h)) 0 0, .pt (.i (.i .h)) 0 0]) 0] 1)) (S.o10 s)
def Sns.base {σ : Type} (S : Sns σ) (s : σ) : T C := trS (S.o1 s) (S.o2 s) (S.o3 s) (S.o4 s) none none none (S.o10 s)
theorem T.le_sameS {α : Type} {l r l' r' : T α} {v : Option α} (hl : T.le l l') (hr : T.le r r') : T.le (.n l v r) (.n l' v r') := T.le_n hl (.inr rfl) hr
theorem Sns.le {σ : Type} (S : Sns σ) (row : List D) (s : σ) (c : Nat → Int) : T.le (S.base s) (S.ob row s c) := by
  unfold Sns.base Sns.ob trS
  repeat' first | exact T.le_refl _ | exact T.le_e _ | refine T.le_sameS ?_ ?_ | refine T.le_none ?_ ?_
def foldZ {σ : Type} (S : Sns σ) : List (Nat → Int) → σ → σ × Bool
  | [], s => (s, true)
  | c :: cs, s => bif S.goes s c then foldZ S cs (S.step s c) else (S.step s c, false)
theorem foldZ_app {σ : Type} (S : Sns σ) : ∀ (a b : List (Nat → Int)) (s : σ), foldZ S (a ++ b) s = bif (foldZ S a s).2 then foldZ S b (foldZ S a s).1 else foldZ S a s
  | [], b, s => rfl
  | c :: a, b, s => by
    have h1 : foldZ S (c :: a) s = bif S.goes s c then foldZ S a (S.step s c) else (S.step s c, false) := rfl
    have h2 : foldZ S (c :: a ++ b) s = bif S.goes s c then foldZ S (a ++ b) (S.step s c) else (S.step s c, false) := rfl
    rw [h1, h2]
    cases h : S.goes s c with
    | true => simpa using foldZ_app S a b (S.step s c)
    | false => rfl
structure SnsOk {σ : Type} (S : Sns σ) (row : List D) (wt : σ → Nat) (top : Nat) : Prop where
  kp : ∀ s c, KpO (S.nx s).nat (S.ob row s c)
  kb : ∀ s, KpO (S.nx s).nat (S.base s)
  nxd : ∀ s, S.nx s = .o (.o (.o .h)) ∨ S.nx s = .i (.i (.o .h))
  up : ∀ s c, (S.nx s).nat ≤ (S.nx (S.step s c)).nat
  wt1 : ∀ s c, S.goes s c = true → wt (S.step s c) ≤ wt s + 1
  rnd : ∀ (s : σ) (c : Nat → Int), Hb c → wt s < top → ∀ (sl : T D) (d : Option Pos) (K : X → Prop), wDst sl (S.ob row (S.step s c) c) (S.nx (S.step s c)) none d K (.b (S.goes s c)) → WRnd Try.prog (.o (.o .h)) [.ag (seaD c)] d ⟨sl, S.ob row s c, S.nx s, none⟩ K
theorem SnsOk.nx {σ : Type} {S : Sns σ} {row : List D} {wt : σ → Nat} {top : Nat} (h : SnsOk S row wt top) (s : σ) : 8 ≤ (S.nx s).nat := by
  rcases h.nxd s with e | e <;> rw [e] <;> simp [Pos.nat]
theorem SnsOk.fwt {σ : Type} {S : Sns σ} {row : List D} {wt : σ → Nat} {top : Nat} (h : SnsOk S row wt top) : ∀ (L : List (Nat → Int)) s, (foldZ S L s).2 = true → wt (foldZ S L s).1 ≤ wt s + L.length
  | [], s, _ => by simp [foldZ]
  | c :: L, s, hg => by
    unfold foldZ at hg ⊢
    have h1 := h.wt1 s c
    have h2 := h.fwt L (S.step s c)
    cases hc : S.goes s c with
    | true =>
      rw [hc] at hg h1
      have h1 := h1 rfl
      have h2 := h2 hg
      simp only [cond_true, List.length_cons]
      omega
    | false => rw [hc] at hg; cases hg
theorem SnsOk.fup {σ : Type} {S : Sns σ} {row : List D} {wt : σ → Nat} {top : Nat} (h : SnsOk S row wt top) : ∀ (L : List (Nat → Int)) s, (S.nx s).nat ≤ (S.nx (foldZ S L s).1).nat
  | [], s => by simp [foldZ]
  | c :: L, s => by
    unfold foldZ
    have h1 := h.up s c
    have h2 := h.fup L (S.step s c)
    cases S.goes s c <;> simp only [cond_true, cond_false] <;> omega
def exF (hs : List Rg) (step : Int) (m p : Nat) (c : Nat → Int) (h : Int) : List (Nat → Int) := exS hs step m (p + 1) (updS c p h)
def exP (hs : List Rg) (step : Int) (m p : Nat) (c : Nat → Int) (lo hi : Int) (k : Nat) : List (Nat → Int) := ((htsL lo hi).take k).flatMap (exF hs step m p c)
theorem exP_succ {hs : List Rg} {step : Int} {m p : Nat} {c : Nat → Int} {lo hi : Int} {k : Nat} (h : k < (hi + 1 - lo).toNat) : exP hs step m p c lo hi (k + 1) = exP hs step m p c lo hi k ++ exF hs step m p c (lo + (k : Int)) := by
  unfold exP
  rw [take_succ_getD (d := 0) (by rw [htsL_length]; exact h), List.flatMap_append, htsL_at h]
  simp
theorem exP_all {hs : List Rg} {step : Int} {m p : Nat} {c : Nat → Int} {k : Nat} (h : (hiP hs step p c + 1 - loP hs step p c).toNat ≤ k) : exP hs step m p c (loP hs step p c) (hiP hs step p c) k = exS hs step (m + 1) p c := by
  unfold exP
  rw [List.take_of_length_le (by rw [htsL_length]; exact h)]
  rfl
theorem exP_len {hs : List Rg} {step : Int} {m p : Nat} {c : Nat → Int} (k : Nat) : (exP hs step m p c (loP hs step p c) (hiP hs step p c) k).length ≤ (exS hs step (m + 1) p c).length := by
  rw [← exP_all (m := m) (k := (hiP hs step p c + 1 - loP hs step p c).toNat) (Nat.le_refl _)]
  unfold exP
  have h2 : (htsL (loP hs step p c) (hiP hs step p c)).take (hiP hs step p c + 1 - loP hs step p c).toNat = htsL (loP hs step p c) (hiP hs step p c) := List.take_of_length_le (by rw [htsL_length]; exact Nat.le_refl _)
  rw [h2]
  conv => rhs; rw [← List.take_append_drop k (htsL (loP hs step p c) (hiP hs step p c)), List.flatMap_append, List.length_append]
  omega
end Go.Ev

namespace Go.Ev
open Go.Proofs
set_option maxRecDepth 100000
def row6 (n : Nat) (hs : List Rg) (step : Int) (lv : List Int) (ms : List Mk) (tr : D) : List D := [.i .i64 ((n : Int) - 1), .lst 2 (rows rgD hs), .i .i64 step, .lst 1 (ints lv), .lst 4 (rows mkD ms), tr]
theorem pu_row6 {n : Nat} {hs : List Rg} {step : Int} {lv : List Int} {ms : List Mk} {tr : D} (h : Pu tr) : PuL (row6 n hs step lv ms tr) := by simp [row6, PuL, Pu, pu_ints, pu_rg, pu_mk, h]
def chZ (row : List D) (p : Nat) : List D := [.i .i64 (p : Int), .pl row 0, .pt (.i (.o .h)) 0 0, .pt (.o (.i .h)) 0 0, .pt (.i (.i .h)) 0 0]
def zS (row : List D) (p lo hi h : Int) : T D := (.n (.n (.n (.n .e (some (.pl [.i .i64 lo, .i .i64 hi] 0)) .e) (some (.pt (.o (.i .h)) 0 0)) .e) (some (.pl row 0)) .e) (some (.i .i64 p)) (.n (.n (.n .e (some (.i .i64 h)) .e) (some (.pt (.i (.i .h)) 0 0)) .e) (some (.pt (.i (.o .h)) 0 0)) .e))
theorem zS_kp {row : List D} (hr : PuL row) {n : Nat} (hn : 8 ≤ n) (p lo hi h : Int) : ∀ s d, (zS row p lo hi h).get s = some d → Kp n d := by
  show TAll (fun _ d => Kp n d) (zS row p lo hi h)
  unfold zS
  repeat' first | exact TAll.e | refine TAll.some ?_ ?_ ?_ | refine TAll.none ?_ ?_
  all_goals simp [Kp, Pu, PuL, hr, Pos.nat]
  all_goals omega
def zT (row : List D) (p lo hi : Int) : T D := (.n (.n (.n (.n .e (some (.pl [.i .i64 lo, .i .i64 hi] 0)) .e) (some (.pt (.o (.i .h)) 0 0)) .e) (some (.pl row 0)) .e) (some (.i .i64 p)) (.n (.n .e (some (.pt (.i (.i .h)) 0 0)) .e) (some (.pt (.i (.o .h)) 0 0)) .e))
def rc106L : RC :=
  (.seq 
    (.seq 
      (.reg [.u (.fad p50 (.t p8) 0), .u (.ld1 p51 (.t p50)), .u (.mv p9 (.t p51))])
      (.blk 0 
        (.loop 
          (.seq 
            (.seq 
              (.reg [.u (.mv p52 (.t p9)), .u (.fad p53 (.t p8) 1), .u (.ld1 p54 (.t p53)), .u (.bin p55 .leq (.t p52) (.t p54))])
              (.cond (.t p55) .skip (.exit 0)))
            (.seq 
              (.blk 1 
                (.seq 
                  (.reg [.u (.mv p58 (.t p1)), .u (.mv p59 (.t p9)), .u (.ixa p60 10 1 (.t p4) (.t p58)), .u (.st (.t p60) (.t p59) 1)])
                  (.seq 
                    (.reg [.u (.ld1 p61 (.t p5)), .u (.mv p62 (.t p1)), .u (.bin p63 .add (.t p62) (.k (.i .i64 1))), .u (.cv (some p64) (.t p61) [(.t p63)]), .u (.un p65 .not (.t p64))])
                    (.cond (.t p65) 
                      (.seq 
                        (.reg [.u (.mv p7 (.k (.b false)))])
                      .ret)
                    .skip))))
              (.reg [.u (.mv p56 (.t p9)), .u (.bin p57 .add (.t p56) (.k (.i .i64 1))), .u (.mv p9 (.t p57))]))))))
    (.seq 
      (.reg [.u (.mv p7 (.k (.b true)))])
    .ret))
theorem c_chLoop {σ : Type} (S : Sns σ) (wt : σ → Nat) (top n : Nat) (hs : List Rg) (step : Int) (lv : List Int) (ms : List Mk) (tr : D) (htr : Pu tr) (h10 : n ≤ 10) (H : SnsOk S (row6 n hs step lv ms tr) wt top) (m p : Nat) (hpn : p < n) (hm : n - p = m + 1) (c : Nat → Int) (hc : Hb c) (s : σ) (hw : wt s + (exS hs step (m + 1) p c).length ≤ top)
    (ih : ∀ c, Hb c → ∀ s, wt s + (exS hs step m (p + 1) c).length ≤ top → ∃ v ob', (∃ c', Hb c' ∧ (∀ i, (i < p + 1 ∨ n ≤ i) → c' i = c i) ∧ v = .b (foldZ S (exS hs step m (p + 1) c) s).2 ∧ ob' = S.ob (row6 n hs step lv ms tr) (foldZ S (exS hs step m (p + 1) c) s).1 c') ∧ CallOk Try.prog p107.ix (chZ (row6 n hs step lv ms tr) (p + 1)) (S.ob (row6 n hs step lv ms tr) s c) (S.nx s) none v ob' (S.nx (foldZ S (exS hs step m (p + 1) c) s).1) none)
    (lo hi : Int) (hlo : loP hs step p c = lo) (hhi : hiP hs step p c = hi) (b1 : 0 ≤ lo) (b2 : lo ≤ 99) (b3 : hi ≤ 99) :
    Rn Try.prog 65 rc106L ⟨zT (row6 n hs step lv ms tr) p lo hi, S.ob (row6 n hs step lv ms tr) s c, S.nx s, none⟩ (FinE rs106 (fun v ob' => ∃ c', Hb c' ∧ (∀ i, (i < p ∨ n ≤ i) → c' i = c i) ∧ v = .b (foldZ S (exS hs step (m + 1) p c) s).2 ∧ ob' = S.ob (row6 n hs step lv ms tr) (foldZ S (exS hs step (m + 1) p c) s).1 c') (S.nx (foldZ S (exS hs step (m + 1) p c) s).1)) := by
  have hr := pu_row6 (n := n) (hs := hs) (step := step) (lv := lv) (ms := ms) htr
  conv => whnf
  repeat' first | ((first | (with_reducible first | apply WB.tt | apply WB.ff) | apply Rn.seq | apply Rn.reg | apply Rn.drw | apply Rn.blk | apply Rn.skip | apply Rn.ret | apply Rn.exit | apply Rn.cond rfl | refine i64_ (by omega) (by omega) ?_ | refine ne0_ (by omega) ?_ | refine WIx.intsN (by omega) ?_ | refine WIx.rowsN (by omega) ?_) <;> conv => whnf)
  refine Rn.loop (fun t : Nat × (Nat → Int) × σ => ⟨zS (row6 n hs step lv ms tr) p lo hi (lo + (t.1 : Int)), S.ob (row6 n hs step lv ms tr) t.2.2 t.2.1, S.nx t.2.2, none⟩) (fun t => t.1 ≤ (hi + 1 - lo).toNat ∧ Hb t.2.1 ∧ (∀ i, (i < p ∨ n ≤ i) → t.2.1 i = c i) ∧ foldZ S (exP hs step m p c lo hi t.1) s = (t.2.2, true)) (fun t => (hi + 1 - lo).toNat - t.1) (0, c, s) ?_ ?_ ?_
  · refine X.le.mk ?_ (T.le_refl _) (Nat.le_refl _) rfl rfl
    unfold zS
    simp only [Int.natCast_zero, Int.add_zero]
    repeat' first | exact T.le_e _ | refine T.le_some ?_ rfl ?_ | refine T.le_none ?_ ?_
  · exact ⟨by omega, hc, fun _ _ => rfl, rfl⟩
  rintro ⟨k, c', s'⟩ ⟨h1, h2, h3, h4⟩
  have h1 : k ≤ (hi + 1 - lo).toNat := h1
  have h2 : Hb c' := h2
  have h3 : ∀ i, (i < p ∨ n ≤ i) → c' i = c i := h3
  have h4 : foldZ S (exP hs step m p c lo hi k) s = (s', true) := h4
  have hws : wt s' ≤ wt s + (exP hs step m p c lo hi k).length := by
    have := H.fwt (exP hs step m p c lo hi k) s (by rw [h4])
    rw [h4] at this
    exact this
  conv => whnf
  repeat' first | ((first | (with_reducible first | apply WB.tt | apply WB.ff) | apply Rn.seq | apply Rn.reg | apply Rn.drw | apply Rn.blk | apply Rn.skip | apply Rn.ret | apply Rn.exit | apply Rn.cond rfl | refine i64_ (by omega) (by omega) ?_ | refine ne0_ (by omega) ?_ | refine WIx.intsN (by omega) ?_ | refine WIx.rowsN (by omega) ?_) <;> conv => whnf)
  refine WB.dec (fun h => ?_) (fun h => ?_) <;> conv => whnf
  · have hkk : lo + (k : Int) ≤ hi := h
    have hklt : k < (hi + 1 - lo).toNat := by omega
    have hsucc := exP_succ (hs := hs) (step := step) (m := m) (p := p) (c := c) hklt
    have hnext : foldZ S (exP hs step m p c lo hi (k + 1)) s = foldZ S (exF hs step m p c (lo + (k : Int))) s' := by
      rw [hsucc, foldZ_app, h4]; rfl
    have hwk : wt s' + (exF hs step m p c (lo + (k : Int))).length ≤ top := by
      have q1 := exP_len (hs := hs) (step := step) (m := m) (p := p) (c := c) (k + 1)
      rw [hlo, hhi, hsucc, List.length_append] at q1
      omega
    have hek : exF hs step m p c (lo + (k : Int)) = exS hs step m (p + 1) (updS c' p (lo + (k : Int))) :=
      (exS_congr hs step m (p + 1) _ _ fun i hi => by
        by_cases e : i = p
        · subst e; rw [updS_eq, updS_eq]
        · rw [updS_ne _ _ e, updS_ne _ _ e, h3 i (by omega)]).symm
    rw [hek] at hnext hwk
    obtain ⟨v, ob', ⟨c2, hb2, hf2, rfl, rfl⟩, C⟩ := ih (updS c' p (lo + (k : Int))) (h2.upd (by omega) (by omega)) s' hwk
    have hfr : ∀ i, (i < p ∨ n ≤ i) → c2 i = c i := fun i ho => by
      rw [hf2 i (by omega), updS_ne _ _ (by omega), h3 i ho]
    have hp10 : p < 10 := by omega
    cases hgo : (foldZ S (exS hs step m (p + 1) (updS c' p (lo + (k : Int)))) s').2 with
    | true =>
      rw [hgo] at C
      repeat' first | ((first | (with_reducible first | apply WB.tt | apply WB.ff) | apply Rn.seq | apply Rn.reg | apply Rn.drw | apply Rn.blk | apply Rn.skip | apply Rn.ret | apply Rn.exit | apply Rn.cond rfl | refine i64_ (by omega) (by omega) ?_ | refine ne0_ (by omega) ?_ | refine WIx.intsN (by omega) ?_ | refine WIx.rowsN (by omega) ?_) <;> conv => whnf)
      rcases ten hp10 with rfl | rfl | rfl | rfl | rfl | rfl | rfl | rfl | rfl | rfl
      all_goals
        refine WSt.ixaN rfl rfl rfl (by omega) ?_; conv => whnf
        repeat' first | ((first | (with_reducible first | apply WB.tt | apply WB.ff) | apply Rn.seq | apply Rn.reg | apply Rn.drw | apply Rn.blk | apply Rn.skip | apply Rn.ret | apply Rn.exit | apply Rn.cond rfl | refine i64_ (by omega) (by omega) ?_ | refine ne0_ (by omega) ?_ | refine WIx.intsN (by omega) ?_ | refine WIx.rowsN (by omega) ?_) <;> conv => whnf)
        refine WCall.at C ?_; conv => whnf
        repeat' first | ((first | (with_reducible first | apply WB.tt | apply WB.ff) | apply Rn.seq | apply Rn.reg | apply Rn.drw | apply Rn.blk | apply Rn.skip | apply Rn.ret | apply Rn.exit | apply Rn.cond rfl | refine i64_ (by omega) (by omega) ?_ | refine ne0_ (by omega) ?_ | refine WIx.intsN (by omega) ?_ | refine WIx.rowsN (by omega) ?_) <;> conv => whnf)
        refine WB.mk (fun e => by cases e) (fun _ => ?_); conv => whnf
        repeat' first | ((first | (with_reducible first | apply WB.tt | apply WB.ff) | apply Rn.seq | apply Rn.reg | apply Rn.drw | apply Rn.blk | apply Rn.skip | apply Rn.ret | apply Rn.exit | apply Rn.cond rfl | refine i64_ (by omega) (by omega) ?_ | refine ne0_ (by omega) ?_ | refine WIx.intsN (by omega) ?_ | refine WIx.rowsN (by omega) ?_) <;> conv => whnf)
        refine Again.to (k + 1, c2, _) (show (hi + 1 - lo).toNat - (k + 1) < (hi + 1 - lo).toNat - k by omega) ⟨show k + 1 ≤ (hi + 1 - lo).toNat by omega, hb2, hfr, hnext.trans (Prod.ext rfl hgo)⟩ (H.fup _ _) (Shr.kp2 ?_ (zS_kp hr (H.nx _) _ _ _ _) (T.le_refl _) (H.kp _ _))
        unfold zS
        simp only [Int.natCast_add, Int.natCast_one, ← Int.add_assoc]
        repeat' first | exact T.le_e _ | refine T.le_some ?_ rfl ?_ | refine T.le_none ?_ ?_
    | false =>
      rw [hgo] at C
      have hend : foldZ S (exS hs step (m + 1) p c) s = foldZ S (exS hs step m (p + 1) (updS c' p (lo + (k : Int)))) s' := by
        have q : exS hs step (m + 1) p c = exP hs step m p c lo hi (k + 1) ++ ((htsL lo hi).drop (k + 1)).flatMap (exF hs step m p c) := by
          rw [← exP_all (m := m) (k := (hi + 1 - lo).toNat) (by rw [hlo, hhi]; exact Nat.le_refl _), hlo, hhi]
          unfold exP
          rw [← List.flatMap_append, List.take_append_drop, List.take_of_length_le (by rw [htsL_length]; exact Nat.le_refl _)]
        rw [q, foldZ_app, hnext, hgo]
        rfl
      rw [hend]
      repeat' first | ((first | (with_reducible first | apply WB.tt | apply WB.ff) | apply Rn.seq | apply Rn.reg | apply Rn.drw | apply Rn.blk | apply Rn.skip | apply Rn.ret | apply Rn.exit | apply Rn.cond rfl | refine i64_ (by omega) (by omega) ?_ | refine ne0_ (by omega) ?_ | refine WIx.intsN (by omega) ?_ | refine WIx.rowsN (by omega) ?_) <;> conv => whnf)
      rcases ten hp10 with rfl | rfl | rfl | rfl | rfl | rfl | rfl | rfl | rfl | rfl
      all_goals
        refine WSt.ixaN rfl rfl rfl (by omega) ?_; conv => whnf
        repeat' first | ((first | (with_reducible first | apply WB.tt | apply WB.ff) | apply Rn.seq | apply Rn.reg | apply Rn.drw | apply Rn.blk | apply Rn.skip | apply Rn.ret | apply Rn.exit | apply Rn.cond rfl | refine i64_ (by omega) (by omega) ?_ | refine ne0_ (by omega) ?_ | refine WIx.intsN (by omega) ?_ | refine WIx.rowsN (by omega) ?_) <;> conv => whnf)
        refine WCall.at C ?_; conv => whnf
        repeat' first | ((first | (with_reducible first | apply WB.tt | apply WB.ff) | apply Rn.seq | apply Rn.reg | apply Rn.drw | apply Rn.blk | apply Rn.skip | apply Rn.ret | apply Rn.exit | apply Rn.cond rfl | refine i64_ (by omega) (by omega) ?_ | refine ne0_ (by omega) ?_ | refine WIx.intsN (by omega) ?_ | refine WIx.rowsN (by omega) ?_) <;> conv => whnf)
        refine WB.mk (fun _ => ?_) (fun e => by cases e); conv => whnf
        repeat' first | ((first | (with_reducible first | apply WB.tt | apply WB.ff) | apply Rn.seq | apply Rn.reg | apply Rn.drw | apply Rn.blk | apply Rn.skip | apply Rn.ret | apply Rn.exit | apply Rn.cond rfl | refine i64_ (by omega) (by omega) ?_ | refine ne0_ (by omega) ?_ | refine WIx.intsN (by omega) ?_ | refine WIx.rowsN (by omega) ?_) <;> conv => whnf)
        exact ⟨.b false, _, ⟨c2, hb2, hfr, by rw [hgo], rfl⟩, ⟨.inr rfl, ⟨_, rfl, .pu trivial⟩, Shr.kp (T.le_refl _) (H.kp _ _)⟩⟩
  · repeat' first | ((first | (with_reducible first | apply WB.tt | apply WB.ff) | apply Rn.seq | apply Rn.reg | apply Rn.drw | apply Rn.blk | apply Rn.skip | apply Rn.ret | apply Rn.exit | apply Rn.cond rfl | refine i64_ (by omega) (by omega) ?_ | refine ne0_ (by omega) ?_ | refine WIx.intsN (by omega) ?_ | refine WIx.rowsN (by omega) ?_) <;> conv => whnf)
    have hnk : ¬ lo + (k : Int) ≤ hi := h
    have hk : exP hs step m p c lo hi k = exS hs step (m + 1) p c := by
      have := exP_all (hs := hs) (step := step) (m := m) (p := p) (c := c) (k := k) (by rw [hlo, hhi]; omega)
      rw [hlo, hhi] at this
      exact this
    rw [hk] at h4
    rw [h4]
    exact ⟨_, _, ⟨c', h2, h3, rfl, rfl⟩, ⟨.inr rfl, ⟨_, rfl, .pu trivial⟩, Shr.kp (T.le_refl _) (H.kp _ _)⟩⟩
end Go.Ev

namespace Go.Ev
open Go.Proofs
set_option maxRecDepth 100000
theorem nineS {m : Nat} (h : m < 9) : m = 0 ∨ m = 1 ∨ m = 2 ∨ m = 3 ∨ m = 4 ∨ m = 5 ∨ m = 6 ∨ m = 7 ∨ m = 8 := by omega
theorem Fz.ptrB {B : Pos → Prop} {ob : T C} {id : Pos} {st : Nat} {cs : List Cell} {cur : Nat} {r : List D} (hB : ¬ B id) (h : ob.get id = some (.cells false cs cur)) (hc : cs = r.map fun d => Cell.o d st) (h0 : 0 < r.length) (hp : PuL r) : Fz B ob (.pt id 0 st) (.pl r 0) := by
  subst hc
  refine .pt hB h h0 (fun k d hk => ⟨.o d st, ?_, ?_, rfl⟩) (FzL.of hp)
  · rw [List.drop_zero, List.getElem?_map, hk]; rfl
  · show Nat.ble st st = true
    exact Nat.ble_eq_true_of_le (Nat.le_refl _)
theorem frS {σ : Type} {S : Sns σ} {row : List D} {wt : σ → Nat} {top : Nat} (H : SnsOk S row wt top) (hr : PuL row) {s : σ} {c : Nat → Int} {p lo hi : Int} {id : Pos} (hx : S.nx s = id) {z : X}
    (h1 : z.sl.get .h = some (.i .i64 p)) (h2 : z.sl.get (.o .h) = some (.pl row 0)) (h3 : z.sl.get (.i .h) = some (.pt (.i (.o .h)) 0 0)) (h4 : z.sl.get (.o (.o .h)) = some (.pt (.o (.i .h)) 0 0)) (h5 : z.sl.get (.i (.o .h)) = some (.pt (.i (.i .h)) 0 0)) (h8 : z.sl.get (.o (.o (.o .h))) = some (.pt id 0 0))
    (ho : z.ob.get id = some (.cells false [.o (.i .i64 lo) 0, .o (.i .i64 hi) 0] 1)) (hle : T.le (S.ob row s c) z.ob) (hl : z.lg = none) : ShrB (fun id => id.nat < (S.nx s).nat) z ⟨zT row p lo hi, S.ob row s c, S.nx s, none⟩ := by
  have hn := H.nx s
  refine ⟨?_, fun i c' hc => ⟨(H.kp s c i c' hc).1, c', hle i c' hc, ShC.kp (H.kp s c i c' hc).2⟩, hl, rfl⟩
  show TAll (fun s' d' => ∃ d, z.sl.get s' = some d ∧ Fz _ z.ob d d') (zT row p lo hi)
  unfold zT
  repeat' first | exact TAll.e | refine TAll.some ?_ ?_ ?_ | refine TAll.none ?_ ?_
  all_goals first
    | exact ⟨_, h1, .pu trivial⟩
    | exact ⟨_, h2, .pu hr⟩
    | exact ⟨_, h3, .kpt (show 5 < _ by omega)⟩
    | exact ⟨_, h4, .kpt (show 6 < _ by omega)⟩
    | exact ⟨_, h5, .kpt (show 7 < _ by omega)⟩
    | exact ⟨_, h8, Fz.ptrB (cs := [.o (.i .i64 lo) 0, .o (.i .i64 hi) 0]) (by rw [hx]; exact Nat.lt_irrefl _) ho rfl (Nat.succ_pos _) (by simp [PuL, Pu])⟩
theorem c_chooseS {σ : Type} (S : Sns σ) (wt : σ → Nat) (top n : Nat) (hs : List Rg) (step : Int) (lv : List Int) (ms : List Mk) (tr : D) (htr : Pu tr) (hn : hs.length = n) (h10 : n ≤ 10) (hv : Vr hs) (h0 : 0 ≤ step) (h99 : step ≤ 99) (H : SnsOk S (row6 n hs step lv ms tr) wt top) : ∀ (m p : Nat), n - p = m → p ≤ n → ∀ c, Hb c → ∀ s, wt s + (exS hs step m p c).length ≤ top →
    ∃ v ob', (∃ c', Hb c' ∧ (∀ i, (i < p ∨ n ≤ i) → c' i = c i) ∧ v = .b (foldZ S (exS hs step m p c) s).2 ∧ ob' = S.ob (row6 n hs step lv ms tr) (foldZ S (exS hs step m p c) s).1 c') ∧ CallOk Try.prog p107.ix (chZ (row6 n hs step lv ms tr) p) (S.ob (row6 n hs step lv ms tr) s c) (S.nx s) none v ob' (S.nx (foldZ S (exS hs step m p c) s).1) none
  | 0, p, hm, hp, c, hc, s, hw => by
    have e1 := rows_length rgD hs
    have hr := pu_row6 (n := n) (hs := hs) (step := step) (lv := lv) (ms := ms) htr
    have hpn : p = n := by omega
    have hw : wt s + 1 ≤ top := by simpa [exS] using hw
    refine CallOk.runE fn106 (by simp [chZ]) (H.fup _ _) ?_; conv => whnf
    repeat' first | ((first | (with_reducible first | apply WB.tt | apply WB.ff) | apply Rn.seq | apply Rn.reg | apply Rn.drw | apply Rn.blk | apply Rn.skip | apply Rn.ret | apply Rn.exit | apply Rn.cond rfl | refine i64_ (by omega) (by omega) ?_ | refine ne0_ (by omega) ?_ | refine WIx.intsN (by omega) ?_ | refine WIx.rowsN (by omega) ?_) <;> conv => whnf)
    refine WB.dec (fun h => ?_) (fun h => ?_) <;> conv => whnf
    · repeat' first | ((first | (with_reducible first | apply WB.tt | apply WB.ff) | apply Rn.seq | apply Rn.reg | apply Rn.drw | apply Rn.blk | apply Rn.skip | apply Rn.ret | apply Rn.exit | apply Rn.cond rfl | refine i64_ (by omega) (by omega) ?_ | refine ne0_ (by omega) ?_ | refine WIx.intsN (by omega) ?_ | refine WIx.rowsN (by omega) ?_) <;> conv => whnf)
      refine H.rnd s c hc (by omega) _ _ _ ?_; conv => whnf
      repeat' first | ((first | (with_reducible first | apply WB.tt | apply WB.ff) | apply Rn.seq | apply Rn.reg | apply Rn.drw | apply Rn.blk | apply Rn.skip | apply Rn.ret | apply Rn.exit | apply Rn.cond rfl | refine i64_ (by omega) (by omega) ?_ | refine ne0_ (by omega) ?_ | refine WIx.intsN (by omega) ?_ | refine WIx.rowsN (by omega) ?_) <;> conv => whnf)
      refine ⟨_, _, ⟨c, hc, fun _ _ => rfl, rfl, rfl⟩, ⟨.inr rfl, ⟨_, rfl, ?_⟩, Shr.kp ?_ (H.kp _ _)⟩⟩
      · show Fz _ _ (.b (S.goes s c)) _
        rw [show (foldZ S (exS hs step 0 p c) s).2 = S.goes s c by simp only [exS, foldZ]; cases S.goes s c <;> rfl]
        exact .pu trivial
      · rw [show (foldZ S (exS hs step 0 p c) s).1 = S.step s c by simp only [exS, foldZ]; cases S.goes s c <;> rfl]
        exact T.le_refl _
    · omega
  | m + 1, p, hm, hp, c, hc, s, hw => by
    have e1 := rows_length rgD hs
    have hr := pu_row6 (n := n) (hs := hs) (step := step) (lv := lv) (ms := ms) htr
    have hpn : p < n := by omega
    have ih := fun c hc s h => c_chooseS S wt top n hs step lv ms tr htr hn h10 hv h0 h99 H m (p + 1) (by omega) (by omega) c hc s h
    refine CallOk.runE fn106 (by simp [chZ]) (H.fup _ _) ?_; conv => whnf
    refine Rn.seq ?_; conv => whnf
    refine Rn.reg ?_; conv => whnf
    refine Rn.seq ?_; conv => whnf
    refine Rn.seq ?_; conv => whnf
    refine Rn.reg ?_; conv => whnf
    refine Rn.cond rfl ?_; conv => whnf
    refine WB.dec (fun h => ?_) (fun h => ?_) <;> conv => whnf
    · omega
    refine Rn.skip ?_; conv => whnf
    have hrp := hv (hs.getD p default) (getD_mem (by omega))
    have key : ∀ lo hi, loP hs step p c = lo → hiP hs step p c = hi → 0 ≤ lo → lo ≤ 99 → hi ≤ 99 → _ := fun lo hi e1 e2 e3 e4 e5 => c_chLoop S wt top n hs step lv ms tr htr h10 H m p hpn hm c hc s hw ih lo hi e1 e2 e3 e4 e5
    rcases H.nxd s with hx | hx
    all_goals
      rw [hx]
      refine Rn.seqB ?_; conv => whnf
      refine Rn.reg ?_; conv => whnf
      refine WIx.rowsN (by omega) ?_; conv => whnf
      refine Rn.seq ?_; conv => whnf
      refine Rn.reg ?_; conv => whnf
      refine Rn.cond rfl ?_; conv => whnf
      refine WB.dec (fun h => ?_) (fun h => ?_) <;> conv => whnf
      · have hp0 : (0 : Int) < (p : Int) := by assumption
        obtain ⟨q, hq⟩ : ∃ q, p = q + 1 := ⟨p - 1, by omega⟩
        have hq9 : q < 9 := by omega
        have hcq := hc q
        rcases nineS hq9 with rfl | rfl | rfl | rfl | rfl | rfl | rfl | rfl | rfl
        all_goals
          subst hq
          repeat' first | ((first | (with_reducible first | apply WB.tt | apply WB.ff) | apply Rn.seq | apply Rn.reg | apply Rn.drw | apply Rn.blk | apply Rn.skip | apply Rn.ret | apply Rn.exit | apply Rn.cond rfl | refine i64_ (by omega) (by omega) ?_ | refine ne0_ (by omega) ?_ | refine WIx.intsN (by omega) ?_ | refine WIx.rowsN (by omega) ?_) <;> conv => whnf)
          refine WSt.ixaN rfl rfl rfl (by omega) ?_; conv => whnf
          repeat' first | ((first | (with_reducible first | apply WB.tt | apply WB.ff) | apply Rn.seq | apply Rn.reg | apply Rn.drw | apply Rn.blk | apply Rn.skip | apply Rn.ret | apply Rn.exit | apply Rn.cond rfl | refine i64_ (by omega) (by omega) ?_ | refine ne0_ (by omega) ?_ | refine WIx.intsN (by omega) ?_ | refine WIx.rowsN (by omega) ?_) <;> conv => whnf)
          refine WSt.ixaN rfl rfl rfl (by omega) ?_; conv => whnf
          repeat' first | ((first | (with_reducible first | apply WB.tt | apply WB.ff) | apply Rn.seq | apply Rn.reg | apply Rn.drw | apply Rn.blk | apply Rn.skip | apply Rn.ret | apply Rn.exit | apply Rn.cond rfl | refine i64_ (by omega) (by omega) ?_ | refine ne0_ (by omega) ?_ | refine WIx.intsN (by omega) ?_ | refine WIx.rowsN (by omega) ?_) <;> conv => whnf)
          refine ⟨rfl, _, (fun id => id.nat < (S.nx s).nat), ?_, (by rw [hx]; exact fun id h => h), (fun id h => h), (by rw [hx]; exact Nat.le_refl _), key _ _ rfl rfl (by simp only [loP]; omega) (by simp only [loP]; omega) (by simp only [hiP]; omega)⟩
          exact frS H hr hx rfl rfl rfl rfl rfl rfl rfl (by unfold Sns.ob trS; repeat' first | exact T.le_refl _ | exact T.le_e _ | refine T.le_sameS ?_ ?_ | refine T.le_none ?_ ?_) rfl
      · have hp0 : p = 0 := by omega
        subst hp0
        repeat' first | ((first | (with_reducible first | apply WB.tt | apply WB.ff) | apply Rn.seq | apply Rn.reg | apply Rn.drw | apply Rn.blk | apply Rn.skip | apply Rn.ret | apply Rn.exit | apply Rn.cond rfl | refine i64_ (by omega) (by omega) ?_ | refine ne0_ (by omega) ?_ | refine WIx.intsN (by omega) ?_ | refine WIx.rowsN (by omega) ?_) <;> conv => whnf)
        refine ⟨rfl, _, (fun id => id.nat < (S.nx s).nat), ?_, (by rw [hx]; exact fun id h => h), (fun id h => h), (by rw [hx]; exact Nat.le_refl _), key _ _ rfl rfl (by simp only [loP]; omega) (by simp only [loP]; omega) (by simp only [hiP]; omega)⟩
        exact frS H hr hx rfl rfl rfl rfl rfl rfl rfl (by unfold Sns.ob trS; repeat' first | exact T.le_refl _ | exact T.le_e _ | refine T.le_sameS ?_ ?_ | refine T.le_none ?_ ?_) rfl
end Go.Ev
