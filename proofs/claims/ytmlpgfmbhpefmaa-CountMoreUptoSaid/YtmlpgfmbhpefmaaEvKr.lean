import Derived.Test.YtmlpgfmbhpefmaaEvKp
import Derived.Test.YtmlpgfmbhpefmaaEvIt
import Derived.Test.YtmlpgfmbhpefmaaEvRn
set_option linter.all false
namespace Go.Ev
open Go.Proofs
set_option maxRecDepth 100000
structure Cns (σ : Type) where
  o1 : σ → Option C
  o2 : σ → Option C
  o3 : σ → Option C
  o4 : σ → Option C
  o5 : σ → Option C
  o12 : σ → Option C
  nx : σ → Pos
  step : σ → (Nat → Int) → σ
  goes : σ → (Nat → Int) → Bool
def trC (x1 x2 x3 x4 x5 x6 x7 x8 x12 : Option C) : T C := .n (.n (.n (.n .e x8 .e) x4 (.n .e x12 .e)) x2 (.n .e x6 .e)) x1 (.n (.n .e x5 .e) x3 (.n .e x7 .e))
def Cns.ob {σ : Type} (S : Cns σ) (row : List D) (s : σ) (c : Nat → Int) : T C := trC (S.o1 s) (S.o2 s) (S.o3 s) (S.o4 s) (S.o5 s) (some (.cells false [.o (.yl (.i (.o .h))) 0] 1)) (some (.cells false (ncel c) 1)) (some (.cells false [.o (.fn p100 [] [.pl row 0, .pt (.o (.i .h)) 0 0, .pt (.i (.i .h)) 0 0, .pt (.o (.o (.o .h))) 0 0]) 0] 1)) (S.o12 s)
def Cns.base {σ : Type} (S : Cns σ) (s : σ) : T C := trC (S.o1 s) (S.o2 s) (S.o3 s) (S.o4 s) (S.o5 s) none none none (S.o12 s)
theorem T.le_same {α : Type} {l r l' r' : T α} {v : Option α} (hl : T.le l l') (hr : T.le r r') : T.le (.n l v r) (.n l' v r') := T.le_n hl (.inr rfl) hr
theorem Cns.le {σ : Type} (S : Cns σ) (row : List D) (s : σ) (c : Nat → Int) : T.le (S.base s) (S.ob row s c) := by
  unfold Cns.base Cns.ob trC
  repeat' first | exact T.le_refl _ | exact T.le_e _ | refine T.le_same ?_ ?_ | refine T.le_none ?_ ?_
def foldS {σ : Type} (S : Cns σ) : List (Nat → Int) → σ → σ × Bool
  | [], s => (s, true)
  | c :: cs, s => bif S.goes s c then foldS S cs (S.step s c) else (S.step s c, false)
theorem foldS_app {σ : Type} (S : Cns σ) : ∀ (a b : List (Nat → Int)) (s : σ), foldS S (a ++ b) s = bif (foldS S a s).2 then foldS S b (foldS S a s).1 else foldS S a s
  | [], b, s => rfl
  | c :: a, b, s => by
    have h1 : foldS S (c :: a) s = bif S.goes s c then foldS S a (S.step s c) else (S.step s c, false) := rfl
    have h2 : foldS S (c :: a ++ b) s = bif S.goes s c then foldS S (a ++ b) (S.step s c) else (S.step s c, false) := rfl
    rw [h1, h2]
    cases h : S.goes s c with
    | true => simpa using foldS_app S a b (S.step s c)
    | false => rfl
def okP (l : List Int) (p : Nat) (k : Int) : Bool := l.getD p 0 == 2 || l.getD p 0 == k
def extsF (l : List Int) : Nat → Nat → (Nat → Int) → List (Nat → Int)
  | 0, _, c => [c]
  | m + 1, p, c => (bif okP l p 0 then extsF l m (p + 1) (upd c p 0) else []) ++ (bif okP l p 1 then extsF l m (p + 1) (upd c p 1) else [])
theorem extsF_len (l : List Int) : ∀ m p c, (extsF l m p c).length ≤ 2 ^ m
  | 0, p, c => by simp [extsF]
  | m + 1, p, c => by
    have h0 := extsF_len l m (p + 1) (upd c p 0)
    have h1 := extsF_len l m (p + 1) (upd c p 1)
    unfold extsF
    rw [List.length_append, Nat.pow_succ]
    cases okP l p 0 <;> cases okP l p 1 <;> simp <;> omega
theorem extsF_congr (l : List Int) : ∀ m p (c c' : Nat → Int), (∀ i, i < p ∨ p + m ≤ i → c' i = c i) → extsF l m p c' = extsF l m p c
  | 0, p, c, c', h => by
    have : c' = c := funext fun i => h i (by omega)
    rw [this]
  | m + 1, p, c, c', h => by
    have key : ∀ k, extsF l m (p + 1) (upd c' p k) = extsF l m (p + 1) (upd c p k) := fun k => extsF_congr l m (p + 1) _ _ fun i hi => by
      by_cases e : i = p
      · subst e; rw [upd_eq, upd_eq]
      · rw [upd_ne _ _ e, upd_ne _ _ e, h i (by omega)]
    unfold extsF
    rw [key 0, key 1]
theorem extsF_bit (l : List Int) : ∀ m p (c : Nat → Int), bit2 c → ∀ x ∈ extsF l m p c, bit2 x
  | 0, p, c, h, x, hx => by
    unfold extsF at hx
    rcases List.mem_singleton.1 hx with rfl
    exact h
  | m + 1, p, c, h, x, hx => by
    unfold extsF at hx
    rcases List.mem_append.1 hx with hx | hx
    · cases e : okP l p 0 with
      | true => rw [e] at hx; exact extsF_bit l m (p + 1) _ (upd_bit h (.inl rfl)) x hx
      | false => rw [e] at hx; cases hx
    · cases e : okP l p 1 with
      | true => rw [e] at hx; exact extsF_bit l m (p + 1) _ (upd_bit h (.inr rfl)) x hx
      | false => rw [e] at hx; cases hx
def exK (l : List Int) (m p : Nat) (c : Nat → Int) (k : Nat) : List (Nat → Int) := bif okP l p (k : Int) then extsF l m (p + 1) (upd c p (k : Int)) else []
def exT (l : List Int) (m p : Nat) (c : Nat → Int) : Nat → List (Nat → Int)
  | 0 => []
  | k + 1 => exT l m p c k ++ exK l m p c k
theorem exT_two (l : List Int) (m p : Nat) (c : Nat → Int) : exT l m p c 2 = extsF l (m + 1) p c := by
  simp [exT, exK, extsF]
theorem exT_len (l : List Int) (m p : Nat) (c : Nat → Int) : ∀ k, k ≤ 2 → (exT l m p c k).length ≤ (extsF l (m + 1) p c).length
  | 0, _ => Nat.zero_le _
  | 1, _ => by rw [← exT_two]; simp [exT]
  | 2, _ => by rw [exT_two]; exact Nat.le_refl _
  | k + 3, h => by omega
structure CnsOk {σ : Type} (S : Cns σ) (row : List D) (wt : σ → Nat) (top : Nat) : Prop where
  kp : ∀ s c, KpO (S.nx s).nat (S.ob row s c)
  kb : ∀ s, KpO (S.nx s).nat (S.base s)
  nx : ∀ s, nine9.nat ≤ (S.nx s).nat
  up : ∀ s c, (S.nx s).nat ≤ (S.nx (S.step s c)).nat
  wt1 : ∀ s c, wt (S.step s c) ≤ wt s + 1
  rnd : ∀ (s : σ) (c : Nat → Int), bit2 c → wt s < top → ∀ (sl : T D) (d : Option Pos) (K : X → Prop), wDst sl (S.ob row (S.step s c) c) (S.nx (S.step s c)) none d K (.b (S.goes s c)) → WRnd Try.prog (.i (.o .h)) [.ag (nums c)] d ⟨sl, S.ob row s c, S.nx s, none⟩ K
theorem CnsOk.fwt {σ : Type} {S : Cns σ} {row : List D} {wt : σ → Nat} {top : Nat} (h : CnsOk S row wt top) : ∀ (L : List (Nat → Int)) s, wt (foldS S L s).1 ≤ wt s + L.length
  | [], s => by simp [foldS]
  | c :: L, s => by
    unfold foldS
    have h1 := h.wt1 s c
    have h2 := h.fwt L (S.step s c)
    cases S.goes s c <;> simp only [cond_true, cond_false, List.length_cons] <;> omega
theorem CnsOk.fup {σ : Type} {S : Cns σ} {row : List D} {wt : σ → Nat} {top : Nat} (h : CnsOk S row wt top) : ∀ (L : List (Nat → Int)) s, (S.nx s).nat ≤ (S.nx (foldS S L s).1).nat
  | [], s => by simp [foldS]
  | c :: L, s => by
    unfold foldS
    have h1 := h.up s c
    have h2 := h.fup L (S.step s c)
    cases S.goes s c <;> simp only [cond_true, cond_false] <;> omega
theorem chS_kpN {row : List D} (h : PuL row) {n : Nat} (hn : nine9.nat ≤ n) (p k : Int) : ∀ s d, (chS row p k).get s = some d → Kp n d := by
  have hn : 9 ≤ n := by simpa [nine9, Pos.nat] using hn
  show TAll (fun _ d => Kp n d) (chS row p k)
  unfold chS
  repeat' first | exact TAll.e | refine TAll.some ?_ ?_ ?_ | refine TAll.none ?_ ?_
  all_goals simp [Kp, Pu, h, Pos.nat]
  all_goals omega
theorem c_chooseG {σ : Type} (S : Cns σ) (wt : σ → Nat) (l : List Int) (cs : List Cnt) (wr off : Int) (tr : D) (htr : Pu tr) (hl : l.length ≤ 9) (H : CnsOk S (row5 l cs wr off tr) wt 1024) : ∀ (m p : Nat), l.length - p = m → p ≤ l.length → ∀ c, bit2 c → ∀ s, wt s + (extsF l m p c).length ≤ 1024 →
    ∃ v ob', (∃ c', bit2 c' ∧ (∀ i, (i < p ∨ l.length ≤ i) → c' i = c i) ∧ v = .b (foldS S (extsF l m p c) s).2 ∧ ob' = S.ob (row5 l cs wr off tr) (foldS S (extsF l m p c) s).1 c') ∧ CallOk Try.prog p100.ix (chA (row5 l cs wr off tr) p) (S.ob (row5 l cs wr off tr) s c) (S.nx s) none v ob' (S.nx (foldS S (extsF l m p c) s).1) none
  | 0, p, hm, hp, c, hc, s, hw => by
    have e1 := ints_length l
    have hr := pu_row5 (l := l) (cs := cs) (wr := wr) (off := off) htr
    have hpn : p = l.length := by omega
    have hw : wt s + 1 ≤ 1024 := by simpa [extsF] using hw
    refine CallOk.runE fn99 (by simp [chA]) (H.fup _ _) ?_; conv => whnf
    repeat' first | ((with_reducible apply WB.tt); conv => whnf) | ((with_reducible apply WB.ff); conv => whnf) | (refine Rn.seq ?_; conv => whnf) | (refine Rn.reg ?_; conv => whnf) | (refine Rn.drw ?_; conv => whnf) | (refine Rn.blk ?_; conv => whnf) | (refine Rn.skip ?_; conv => whnf) | (refine Rn.ret ?_; conv => whnf) | (refine Rn.exit ?_; conv => whnf) | (refine Rn.cond rfl ?_; conv => whnf) | (refine And.intro (InR.i64 (by omega) (by omega)) ?_; conv => whnf) | (refine WIx.intsN (by omega) ?_; conv => whnf) | (refine WIx.rowsN (by omega) ?_; conv => whnf)
    refine WB.dec (fun h => ?_) (fun h => ?_) <;> conv => whnf
    · repeat' first | ((with_reducible apply WB.tt); conv => whnf) | ((with_reducible apply WB.ff); conv => whnf) | (refine Rn.seq ?_; conv => whnf) | (refine Rn.reg ?_; conv => whnf) | (refine Rn.drw ?_; conv => whnf) | (refine Rn.blk ?_; conv => whnf) | (refine Rn.skip ?_; conv => whnf) | (refine Rn.ret ?_; conv => whnf) | (refine Rn.exit ?_; conv => whnf) | (refine Rn.cond rfl ?_; conv => whnf) | (refine And.intro (InR.i64 (by omega) (by omega)) ?_; conv => whnf) | (refine WIx.intsN (by omega) ?_; conv => whnf) | (refine WIx.rowsN (by omega) ?_; conv => whnf)
      refine H.rnd s c hc (by omega) _ _ _ ?_; conv => whnf
      repeat' first | ((with_reducible apply WB.tt); conv => whnf) | ((with_reducible apply WB.ff); conv => whnf) | (refine Rn.seq ?_; conv => whnf) | (refine Rn.reg ?_; conv => whnf) | (refine Rn.drw ?_; conv => whnf) | (refine Rn.blk ?_; conv => whnf) | (refine Rn.skip ?_; conv => whnf) | (refine Rn.ret ?_; conv => whnf) | (refine Rn.exit ?_; conv => whnf) | (refine Rn.cond rfl ?_; conv => whnf) | (refine And.intro (InR.i64 (by omega) (by omega)) ?_; conv => whnf) | (refine WIx.intsN (by omega) ?_; conv => whnf) | (refine WIx.rowsN (by omega) ?_; conv => whnf)
      refine ⟨_, _, ⟨c, hc, fun _ _ => rfl, rfl, rfl⟩, ⟨.inr rfl, ⟨_, rfl, ?_⟩, Shr.kp ?_ (H.kp _ _)⟩⟩
      · show Fz _ _ (.b (S.goes s c)) _
        rw [show (foldS S (extsF l 0 p c) s).2 = S.goes s c by simp only [extsF, foldS]; cases S.goes s c <;> rfl]
        exact .pu trivial
      · rw [show (foldS S (extsF l 0 p c) s).1 = S.step s c by simp only [extsF, foldS]; cases S.goes s c <;> rfl]
        exact T.le_refl _
    · omega
  | m + 1, p, hm, hp, c, hc, s, hw => by
    have e1 := ints_length l
    have hr := pu_row5 (l := l) (cs := cs) (wr := wr) (off := off) htr
    have hpn : p < l.length := by omega
    have ih := fun c hc s h => c_chooseG S wt l cs wr off tr htr hl H m (p + 1) (by omega) (by omega) c hc s h
    refine CallOk.runE fn99 (by simp [chA]) (H.fup _ _) ?_; conv => whnf
    repeat' first | ((with_reducible apply WB.tt); conv => whnf) | ((with_reducible apply WB.ff); conv => whnf) | (refine Rn.seq ?_; conv => whnf) | (refine Rn.reg ?_; conv => whnf) | (refine Rn.drw ?_; conv => whnf) | (refine Rn.blk ?_; conv => whnf) | (refine Rn.skip ?_; conv => whnf) | (refine Rn.ret ?_; conv => whnf) | (refine Rn.exit ?_; conv => whnf) | (refine Rn.cond rfl ?_; conv => whnf) | (refine And.intro (InR.i64 (by omega) (by omega)) ?_; conv => whnf) | (refine WIx.intsN (by omega) ?_; conv => whnf) | (refine WIx.rowsN (by omega) ?_; conv => whnf)
    refine WB.dec (fun h => ?_) (fun h => ?_) <;> conv => whnf
    · omega
    repeat' first | ((with_reducible apply WB.tt); conv => whnf) | ((with_reducible apply WB.ff); conv => whnf) | (refine Rn.seq ?_; conv => whnf) | (refine Rn.reg ?_; conv => whnf) | (refine Rn.drw ?_; conv => whnf) | (refine Rn.blk ?_; conv => whnf) | (refine Rn.skip ?_; conv => whnf) | (refine Rn.ret ?_; conv => whnf) | (refine Rn.exit ?_; conv => whnf) | (refine Rn.cond rfl ?_; conv => whnf) | (refine And.intro (InR.i64 (by omega) (by omega)) ?_; conv => whnf) | (refine WIx.intsN (by omega) ?_; conv => whnf) | (refine WIx.rowsN (by omega) ?_; conv => whnf)
    refine Rn.loop (fun t : Nat × (Nat → Int) × σ => ⟨chS (row5 l cs wr off tr) p t.1, S.ob (row5 l cs wr off tr) t.2.2 t.2.1, S.nx t.2.2, none⟩) (fun t => t.1 ≤ 2 ∧ bit2 t.2.1 ∧ (∀ i, (i < p ∨ l.length ≤ i) → t.2.1 i = c i) ∧ foldS S (exT l m p c t.1) s = (t.2.2, true)) (fun t => 2 - t.1) (0, c, s) ?_ ?_ ?_
    · refine X.le.mk ?_ (T.le_refl _) (Nat.le_refl _) rfl rfl
      unfold chS
      repeat' first | exact T.le_e _ | refine T.le_some ?_ rfl ?_ | refine T.le_none ?_ ?_
    · exact ⟨by omega, hc, fun _ _ => rfl, rfl⟩
    rintro ⟨k, c', s'⟩ ⟨h1, h2, h3, h4⟩
    have h1 : k ≤ 2 := h1
    have h2 : bit2 c' := h2
    have h3 : ∀ i, (i < p ∨ l.length ≤ i) → c' i = c i := h3
    have h4 : foldS S (exT l m p c k) s = (s', true) := h4
    have hws : wt s' ≤ wt s + (exT l m p c k).length := by
      have := H.fwt (exT l m p c k) s
      rw [h4] at this
      exact this
    conv => whnf
    repeat' first | ((with_reducible apply WB.tt); conv => whnf) | ((with_reducible apply WB.ff); conv => whnf) | (refine Rn.seq ?_; conv => whnf) | (refine Rn.reg ?_; conv => whnf) | (refine Rn.drw ?_; conv => whnf) | (refine Rn.blk ?_; conv => whnf) | (refine Rn.skip ?_; conv => whnf) | (refine Rn.ret ?_; conv => whnf) | (refine Rn.exit ?_; conv => whnf) | (refine Rn.cond rfl ?_; conv => whnf) | (refine And.intro (InR.i64 (by omega) (by omega)) ?_; conv => whnf) | (refine WIx.intsN (by omega) ?_; conv => whnf) | (refine WIx.rowsN (by omega) ?_; conv => whnf)
    refine WB.dec (fun h => ?_) (fun h => ?_) <;> conv => whnf
    · have hk2' : (k : Int) < 2 := by assumption
      have hk2 : k < 2 := by omega
      have hnext : foldS S (exT l m p c (k + 1)) s = foldS S (exK l m p c k) s' := by
        show foldS S (exT l m p c k ++ exK l m p c k) s = _
        rw [foldS_app, h4]; rfl
      have hwk : wt s' + (exK l m p c k).length ≤ 1024 := by
        have q1 := exT_len l m p c (k + 1) (by omega)
        have q2 : (exT l m p c (k + 1)).length = (exT l m p c k).length + (exK l m p c k).length := by
          show (exT l m p c k ++ exK l m p c k).length = _
          rw [List.length_append]
        omega
      repeat' first | ((with_reducible apply WB.tt); conv => whnf) | ((with_reducible apply WB.ff); conv => whnf) | (refine Rn.seq ?_; conv => whnf) | (refine Rn.reg ?_; conv => whnf) | (refine Rn.drw ?_; conv => whnf) | (refine Rn.blk ?_; conv => whnf) | (refine Rn.skip ?_; conv => whnf) | (refine Rn.ret ?_; conv => whnf) | (refine Rn.exit ?_; conv => whnf) | (refine Rn.cond rfl ?_; conv => whnf) | (refine And.intro (InR.i64 (by omega) (by omega)) ?_; conv => whnf) | (refine WIx.intsN (by omega) ?_; conv => whnf) | (refine WIx.rowsN (by omega) ?_; conv => whnf) | ((with_reducible refine WB.dec (fun h => ?_) (fun h => ?_)) <;> conv => whnf) | ((with_reducible refine WB.ndec (fun h => ?_) (fun h => ?_)) <;> conv => whnf) | (refine WB.mk (fun h => ?_) (fun h => ?_) <;> conv => whnf)
      · have n2 : ¬ l.getD p 0 = 2 := by assumption
        have nk : ¬ l.getD p 0 = (k : Int) := h
        have hek : exK l m p c k = [] := by
          unfold exK okP
          rw [show (l.getD p 0 == 2) = false from by simpa using n2, show (l.getD p 0 == (k : Int)) = false from by simpa using nk]
          rfl
        rw [hek] at hnext
        refine Again.to (k + 1, c', s') (show 2 - (k + 1) < 2 - k by omega) ⟨show k + 1 ≤ 2 by omega, h2, h3, hnext⟩ (Nat.le_refl _) (Shr.kp2 ?_ (chS_kpN hr (H.nx _) _ _) (T.le_refl _) (H.kp _ _))
        (unfold chS; repeat' first | exact T.le_e _ | refine T.le_some ?_ rfl ?_ | refine T.le_none ?_ ?_)
      all_goals
        have hk01 : (k : Int) = 0 ∨ (k : Int) = 1 := by omega
        have hal : okP l p (k : Int) = true := by
          unfold okP
          first
            | (rw [show (l.getD p 0 == 2) = true from by simpa using (by assumption : l.getD p 0 = 2)]; rfl)
            | (rw [show (l.getD p 0 == (k : Int)) = true from by simpa using (by assumption : l.getD p 0 = (k : Int)), Bool.or_true])
        have hp9 : p < 9 := by omega
        have hek : exK l m p c k = extsF l m (p + 1) (upd c' p k) := by
          unfold exK
          rw [hal]
          exact (extsF_congr l m (p + 1) _ _ fun i hi => by
            by_cases e : i = p
            · subst e; rw [upd_eq, upd_eq]
            · rw [upd_ne _ _ e, upd_ne _ _ e, h3 i (by omega)]).symm
        rw [hek] at hnext hwk
        obtain ⟨v, ob', ⟨c2, hb2, hf2, rfl, rfl⟩, C⟩ := ih (upd c' p k) (upd_bit h2 hk01) s' hwk
        have hfr : ∀ i, (i < p ∨ l.length ≤ i) → c2 i = c i := fun i ho => by
          rw [hf2 i (by omega), upd_ne _ _ (by omega), h3 i ho]
        cases hgo : (foldS S (extsF l m (p + 1) (upd c' p k)) s').2 with
        | true =>
          rw [hgo] at C
          rcases nine hp9 with rfl | rfl | rfl | rfl | rfl | rfl | rfl | rfl | rfl
          all_goals
            refine WSt.ixaN rfl rfl rfl (by omega) ?_; conv => whnf
            repeat' first | ((with_reducible apply WB.tt); conv => whnf) | ((with_reducible apply WB.ff); conv => whnf) | (refine Rn.seq ?_; conv => whnf) | (refine Rn.reg ?_; conv => whnf) | (refine Rn.drw ?_; conv => whnf) | (refine Rn.blk ?_; conv => whnf) | (refine Rn.skip ?_; conv => whnf) | (refine Rn.ret ?_; conv => whnf) | (refine Rn.exit ?_; conv => whnf) | (refine Rn.cond rfl ?_; conv => whnf) | (refine And.intro (InR.i64 (by omega) (by omega)) ?_; conv => whnf) | (refine WIx.intsN (by omega) ?_; conv => whnf) | (refine WIx.rowsN (by omega) ?_; conv => whnf)
            refine WCall.at C ?_; conv => whnf
            repeat' first | ((with_reducible apply WB.tt); conv => whnf) | ((with_reducible apply WB.ff); conv => whnf) | (refine Rn.seq ?_; conv => whnf) | (refine Rn.reg ?_; conv => whnf) | (refine Rn.drw ?_; conv => whnf) | (refine Rn.blk ?_; conv => whnf) | (refine Rn.skip ?_; conv => whnf) | (refine Rn.ret ?_; conv => whnf) | (refine Rn.exit ?_; conv => whnf) | (refine Rn.cond rfl ?_; conv => whnf) | (refine And.intro (InR.i64 (by omega) (by omega)) ?_; conv => whnf) | (refine WIx.intsN (by omega) ?_; conv => whnf) | (refine WIx.rowsN (by omega) ?_; conv => whnf)
            refine WB.mk (fun e => by cases e) (fun _ => ?_); conv => whnf
            repeat' first | ((with_reducible apply WB.tt); conv => whnf) | ((with_reducible apply WB.ff); conv => whnf) | (refine Rn.seq ?_; conv => whnf) | (refine Rn.reg ?_; conv => whnf) | (refine Rn.drw ?_; conv => whnf) | (refine Rn.blk ?_; conv => whnf) | (refine Rn.skip ?_; conv => whnf) | (refine Rn.ret ?_; conv => whnf) | (refine Rn.exit ?_; conv => whnf) | (refine Rn.cond rfl ?_; conv => whnf) | (refine And.intro (InR.i64 (by omega) (by omega)) ?_; conv => whnf) | (refine WIx.intsN (by omega) ?_; conv => whnf) | (refine WIx.rowsN (by omega) ?_; conv => whnf)
            refine Again.to (k + 1, c2, _) (show 2 - (k + 1) < 2 - k by omega) ⟨show k + 1 ≤ 2 by omega, hb2, hfr, hnext.trans (Prod.ext rfl hgo)⟩ (H.fup _ _) (Shr.kp2 ?_ (chS_kpN hr (H.nx _) _ _) (T.le_refl _) (H.kp _ _))
            (unfold chS; repeat' first | exact T.le_e _ | refine T.le_some ?_ rfl ?_ | refine T.le_none ?_ ?_)
        | false =>
          rw [hgo] at C
          have hend : foldS S (extsF l (m + 1) p c) s = foldS S (extsF l m (p + 1) (upd c' p k)) s' := by
            rw [← exT_two]
            have hk : k = 0 ∨ k = 1 := by omega
            rcases hk with rfl | rfl
            · show foldS S (exT l m p c (0 + 1) ++ exK l m p c 1) s = _
              rw [foldS_app, hnext, hgo]; rfl
            · exact hnext
          rw [hend]
          rcases nine hp9 with rfl | rfl | rfl | rfl | rfl | rfl | rfl | rfl | rfl
          all_goals
            refine WSt.ixaN rfl rfl rfl (by omega) ?_; conv => whnf
            repeat' first | ((with_reducible apply WB.tt); conv => whnf) | ((with_reducible apply WB.ff); conv => whnf) | (refine Rn.seq ?_; conv => whnf) | (refine Rn.reg ?_; conv => whnf) | (refine Rn.drw ?_; conv => whnf) | (refine Rn.blk ?_; conv => whnf) | (refine Rn.skip ?_; conv => whnf) | (refine Rn.ret ?_; conv => whnf) | (refine Rn.exit ?_; conv => whnf) | (refine Rn.cond rfl ?_; conv => whnf) | (refine And.intro (InR.i64 (by omega) (by omega)) ?_; conv => whnf) | (refine WIx.intsN (by omega) ?_; conv => whnf) | (refine WIx.rowsN (by omega) ?_; conv => whnf)
            refine WCall.at C ?_; conv => whnf
            repeat' first | ((with_reducible apply WB.tt); conv => whnf) | ((with_reducible apply WB.ff); conv => whnf) | (refine Rn.seq ?_; conv => whnf) | (refine Rn.reg ?_; conv => whnf) | (refine Rn.drw ?_; conv => whnf) | (refine Rn.blk ?_; conv => whnf) | (refine Rn.skip ?_; conv => whnf) | (refine Rn.ret ?_; conv => whnf) | (refine Rn.exit ?_; conv => whnf) | (refine Rn.cond rfl ?_; conv => whnf) | (refine And.intro (InR.i64 (by omega) (by omega)) ?_; conv => whnf) | (refine WIx.intsN (by omega) ?_; conv => whnf) | (refine WIx.rowsN (by omega) ?_; conv => whnf)
            refine WB.mk (fun _ => ?_) (fun e => by cases e); conv => whnf
            repeat' first | ((with_reducible apply WB.tt); conv => whnf) | ((with_reducible apply WB.ff); conv => whnf) | (refine Rn.seq ?_; conv => whnf) | (refine Rn.reg ?_; conv => whnf) | (refine Rn.drw ?_; conv => whnf) | (refine Rn.blk ?_; conv => whnf) | (refine Rn.skip ?_; conv => whnf) | (refine Rn.ret ?_; conv => whnf) | (refine Rn.exit ?_; conv => whnf) | (refine Rn.cond rfl ?_; conv => whnf) | (refine And.intro (InR.i64 (by omega) (by omega)) ?_; conv => whnf) | (refine WIx.intsN (by omega) ?_; conv => whnf) | (refine WIx.rowsN (by omega) ?_; conv => whnf)
            exact ⟨.b false, _, ⟨c2, hb2, hfr, by rw [hgo], rfl⟩, ⟨.inr rfl, ⟨_, rfl, .pu trivial⟩, Shr.kp (T.le_refl _) (H.kp _ _)⟩⟩
    · repeat' first | ((with_reducible apply WB.tt); conv => whnf) | ((with_reducible apply WB.ff); conv => whnf) | (refine Rn.seq ?_; conv => whnf) | (refine Rn.reg ?_; conv => whnf) | (refine Rn.drw ?_; conv => whnf) | (refine Rn.blk ?_; conv => whnf) | (refine Rn.skip ?_; conv => whnf) | (refine Rn.ret ?_; conv => whnf) | (refine Rn.exit ?_; conv => whnf) | (refine Rn.cond rfl ?_; conv => whnf) | (refine And.intro (InR.i64 (by omega) (by omega)) ?_; conv => whnf) | (refine WIx.intsN (by omega) ?_; conv => whnf) | (refine WIx.rowsN (by omega) ?_; conv => whnf)
      have h6 : ¬ (k : Int) < 2 := by assumption
      have hk : k = 2 := by omega
      subst hk
      rw [exT_two] at h4
      rw [h4]
      exact ⟨_, _, ⟨c', h2, h3, rfl, rfl⟩, ⟨.inr rfl, ⟨_, rfl, .pu trivial⟩, Shr.kp (T.le_refl _) (H.kp _ _)⟩⟩
end Go.Ev

namespace Go.Ev
open Go.Proofs
set_option maxRecDepth 100000
theorem T.le_ee {α : Type} {l r : T α} (hl : T.le l .e) (hr : T.le r .e) : T.le (.n l none r) .e := fun p x h => by
  cases p with
  | h => rw [T.get_h] at h; cases h
  | o p => exact absurd (hl p x h) (by rw [T.get_e]; exact fun h => by cases h)
  | i p => exact absurd (hr p x h) (by rw [T.get_e]; exact fun h => by cases h)
theorem KpO.le {n : Nat} {a b : T C} (h : T.le a b) (k : KpO n b) : KpO n a := fun id c hc => k id c (h id c hc)
theorem Shr.kpg {ob ob' : T C} {nx nx' : Pos} (h : Rel (fun _ c c' => c = c' ∨ ShC (fun id => id.nat < nx'.nat) ob c c') (fun p => p) ob' ob) (k : KpO nx'.nat ob') : Shr ⟨.e, ob, nx, none⟩ ⟨.e, ob', nx', none⟩ :=
  ⟨(fun s d h => by rw [T.get_e] at h; cases h), fun id c' hc => let ⟨c, h1, h2⟩ := h id c' hc; ⟨(k id c' hc).1, c, h1, h2.elim (fun e => by rw [e]; exact ShC.kp (k id c' hc).2) (fun h => h)⟩, rfl, rfl⟩
def lst9 (c : Nat → Int) : List Int := [c 0, c 1, c 2, c 3, c 4, c 5, c 6, c 7, c 8]
def ownB (n : Nat) (cs : List Cnt) (wr off : Int) (c : Nat → Int) : Bool := ownR ((lst9 c).take n) cs wr off
theorem bit2.bits {c : Nat → Int} (h : bit2 c) : Bits (lst9 c) := fun x hx => by
  simp only [lst9, List.mem_cons, List.not_mem_nil, or_false] at hx
  rcases hx with rfl | rfl | rfl | rfl | rfl | rfl | rfl | rfl | rfl <;> exact h _
def ten13 : Pos := .i (.o (.i .h))
def slD : List (Nat → Int) → D
  | [] => .ns
  | _ :: s => .sl (.o (.o (.i .h))) 0 (s.length + 1) s.length 9
def flat9 (s : List (Nat → Int)) : List D := s.flatMap nums
theorem flat9_length (s : List (Nat → Int)) : (flat9 s).length = s.length * 9 := by
  induction s with
  | nil => rfl
  | cons a s ih => unfold flat9 at *; rw [List.flatMap_cons, List.length_append, ih]; simp [nums]; omega
def blkO : List (Nat → Int) → Option C
  | [] => none
  | a :: s => some (.cells false ((flat9 (a :: s)).map fun d => Cell.o d s.length) (s.length + 1))
noncomputable def lpA (row : List D) (st : LS) : C := .lp (.n .e none (.n .e (some (.pt .h 0 0)) (.n .e (some (.fn p103 [] [.pl row 0])) .e))) [p8] 13 (rfA (bodyC Try.f101) 0) (rfB (bodyC Try.f101) 0) st none
noncomputable def lpB (row : List D) (st : LS) : C := .lp (.n (.n .e (some (.pl row 0)) (.n .e (some (.fn p99 [] [.pl row 0])) .e)) none (.n .e (some (.pt (.i .h) 0 0)) .e)) [p7] 16 (rfA (bodyC Try.f102) 0) (rfB (bodyC Try.f102) 0) st none
noncomputable def ownS (row : List D) (B : (Nat → Int) → Bool) : Cns (List (Nat → Int)) where
  o1 s := some (.cells false [.o (slD s) 0] 1)
  o2 _ := some (lpA row .ready)
  o3 _ := some (.cells false [.o (.yl (.o .h)) 0] 1)
  o4 _ := none
  o5 _ := some (lpB row .ready)
  o12 s := blkO s
  nx s := match s with
    | [] => nine9
    | _ :: _ => ten13
  step s c := bif B c then s ++ [c] else s
  goes _ _ := true
theorem ownS_fold (row : List D) (B : (Nat → Int) → Bool) : ∀ L s, foldS (ownS row B) L s = (s ++ L.filter B, true)
  | [], s => by simp [foldS]
  | c :: L, s => by
    have ih := ownS_fold row B L (bif B c then s ++ [c] else s)
    show (bif true then foldS (ownS row B) L (bif B c then s ++ [c] else s) else _) = _
    rw [cond_true, ih]
    cases h : B c <;> simp [h]
theorem lpA_kp {row : List D} (h : PuL row) (st : LS) {n : Nat} (hn : 1 < n) : KpC n (lpA row st) := by
  show TAll (fun _ d => Kp n d) _
  repeat' first | exact TAll.e | refine TAll.some ?_ ?_ ?_ | refine TAll.none ?_ ?_
  all_goals simp [Kp, KpL, Pu, h, Pos.nat]
  all_goals omega
theorem lpB_kp {row : List D} (h : PuL row) (st : LS) {n : Nat} (hn : 3 < n) : KpC n (lpB row st) := by
  show TAll (fun _ d => Kp n d) _
  repeat' first | exact TAll.e | refine TAll.some ?_ ?_ ?_ | refine TAll.none ?_ ?_
  all_goals simp [Kp, KpL, Pu, h, Pos.nat]
  all_goals omega
theorem nums_pu (c : Nat → Int) : PuL (nums c) := by simp [nums, PuL, Pu]
theorem flat9_pu (s : List (Nat → Int)) : PuL (flat9 s) := by
  refine PuL_iff.2 fun d hd => ?_
  obtain ⟨c, _, hc⟩ := List.mem_flatMap.1 hd
  exact PuL_iff.1 (nums_pu c) d hc
theorem nums_kp (n : Nat) (c : Nat → Int) : ∀ d ∈ nums c, Kp n d := fun d hd => by
  simp only [nums, List.mem_cons, List.not_mem_nil, or_false] at hd
  rcases hd with rfl | rfl | rfl | rfl | rfl | rfl | rfl | rfl | rfl <;> simp [Kp, Pu]
theorem flat9_kp (n : Nat) (s : List (Nat → Int)) (st : Nat) : ∀ c ∈ (flat9 s).map (fun d => Cell.o d st), Kp n c.d := fun c hc => by
  obtain ⟨d, hd, rfl⟩ := List.mem_map.1 hc
  obtain ⟨x, _, hx⟩ := List.mem_flatMap.1 hd
  exact nums_kp n x d hx
theorem ncel_kp (n : Nat) (c : Nat → Int) (r : Bool) : KpC n (.cells r (ncel c) 1) := by
  refine KpL.all ?_
  simp [ncel, KpL, Kp, Cell.d, Pu]
theorem one_kp {n : Nat} {d : D} {r : Bool} {k m : Nat} (h : Kp n d) : KpC n (.cells r [.o d k] m) := by
  refine KpL.all ?_
  simp [KpL, Cell.d, h]
theorem ownS_nx (row : List D) (B : (Nat → Int) → Bool) (s : List (Nat → Int)) : ((ownS row B).nx s = nine9 ∧ s = []) ∨ ((ownS row B).nx s = ten13 ∧ s ≠ []) := by
  cases s with
  | nil => exact .inl ⟨rfl, rfl⟩
  | cons a s => exact .inr ⟨rfl, by simp⟩
theorem ownS_kp {row : List D} (h : PuL row) (B : (Nat → Int) → Bool) (s : List (Nat → Int)) (c : Nat → Int) : KpO ((ownS row B).nx s).nat ((ownS row B).ob row s c) := by
  cases s with
  | nil =>
    show TAll (fun id c => id.nat < 9 ∧ KpC 9 c) _
    unfold Cns.ob trC
    repeat' first | exact TAll.e | refine TAll.some ?_ ?_ ?_ | refine TAll.none ?_ ?_
    all_goals refine ⟨by simp [Pos.nat], ?_⟩
    all_goals first
      | exact lpA_kp h _ (by omega)
      | exact lpB_kp h _ (by omega)
      | exact ncel_kp _ _ _
      | (refine one_kp ?_; simp [slD, Kp, KpL, Pu, h, Pos.nat]; done)
  | cons a s =>
    show TAll (fun id c => id.nat < 13 ∧ KpC 13 c) _
    unfold Cns.ob trC
    repeat' first | exact TAll.e | refine TAll.some ?_ ?_ ?_ | refine TAll.none ?_ ?_
    all_goals refine ⟨by simp [Pos.nat], ?_⟩
    all_goals first
      | exact lpA_kp h _ (by omega)
      | exact lpB_kp h _ (by omega)
      | exact ncel_kp _ _ _
      | exact flat9_kp _ _ _
      | (refine one_kp ?_; simp [slD, Kp, KpL, Pu, h, Pos.nat]; done)
set_option maxHeartbeats 1000000 in
theorem own_rnd (l : List Int) (cs : List Cnt) (wr off : Int) (tr : D) (htr : Pu tr) (hl : l.length ≤ 9) (hcs : ∀ c ∈ cs, cntIn l.length c) (hn : cs.length ≤ 1000) (s : List (Nat → Int)) (c : Nat → Int) (hc : bit2 c) (hs : s.length < 1024) (sl : T D) (d : Option Pos) (K : X → Prop)
    (k : wDst sl ((ownS (row5 l cs wr off tr) (ownB l.length cs wr off)).ob (row5 l cs wr off tr) ((ownS (row5 l cs wr off tr) (ownB l.length cs wr off)).step s c) c) ((ownS (row5 l cs wr off tr) (ownB l.length cs wr off)).nx ((ownS (row5 l cs wr off tr) (ownB l.length cs wr off)).step s c)) none d K (.b true)) :
    WRnd Try.prog (.i (.o .h)) [.ag (nums c)] d ⟨sl, (ownS (row5 l cs wr off tr) (ownB l.length cs wr off)).ob (row5 l cs wr off tr) s c, (ownS (row5 l cs wr off tr) (ownB l.length cs wr off)).nx s, none⟩ K := by
  have e1 := ints_length l
  have hr := pu_row5 (l := l) (cs := cs) (wr := wr) (off := off) htr
  have hB : ownB l.length cs wr off c = ((errs ((lst9 c).take l.length) cs).all (fun n => decide (n ≤ off)) && decide ((cs.length : Int) - nR ((lst9 c).take l.length) cs cs.length ≤ wr)) := rfl
  cases s with
  | nil =>
    refine WRnd.run rfl rc102a0_ok rc102b0_ok ⟨_, rfl, ?_⟩; conv => whnf
    repeat' first | ((with_reducible apply WB.tt); conv => whnf) | ((with_reducible apply WB.ff); conv => whnf) | (refine Rn.seq ?_; conv => whnf) | (refine Rn.reg ?_; conv => whnf) | (refine Rn.drw ?_; conv => whnf) | (refine Rn.blk ?_; conv => whnf) | (refine Rn.skip ?_; conv => whnf) | (refine Rn.ret ?_; conv => whnf) | (refine Rn.exit ?_; conv => whnf) | (refine Rn.cond rfl ?_; conv => whnf) | (refine And.intro (InR.i64 (by omega) (by omega)) ?_; conv => whnf) | (refine WIx.intsN (by omega) ?_; conv => whnf) | (refine WIx.rowsN (by omega) ?_; conv => whnf)
    refine ⟨rfl, rfl, _, _, _, _, _, _, rfl, ?_⟩; conv => whnf
    repeat' first | ((with_reducible apply WB.tt); conv => whnf) | ((with_reducible apply WB.ff); conv => whnf) | (refine Rn.seq ?_; conv => whnf) | (refine Rn.reg ?_; conv => whnf) | (refine Rn.drw ?_; conv => whnf) | (refine Rn.blk ?_; conv => whnf) | (refine Rn.skip ?_; conv => whnf) | (refine Rn.ret ?_; conv => whnf) | (refine Rn.exit ?_; conv => whnf) | (refine Rn.cond rfl ?_; conv => whnf) | (refine And.intro (InR.i64 (by omega) (by omega)) ?_; conv => whnf) | (refine WIx.intsN (by omega) ?_; conv => whnf) | (refine WIx.rowsN (by omega) ?_; conv => whnf) | (refine WCall.pure (c_isOwn l cs wr off tr htr (c 0) (c 1) (c 2) (c 3) (c 4) (c 5) (c 6) (c 7) (c 8) hc.bits hl hcs hn) ?_; conv => whnf)
    refine WB.mk (fun h => ?_) (fun h => ?_) <;> conv => whnf
    · have hst : (ownS (row5 l cs wr off tr) (ownB l.length cs wr off)).step [] c = [c] := by
        show (bif ownB l.length cs wr off c then _ else _) = _
        rw [show ownB l.length cs wr off c = true from h]; rfl
      rw [hst] at k
      repeat' first | ((with_reducible apply WB.tt); conv => whnf) | ((with_reducible apply WB.ff); conv => whnf) | (refine Rn.seq ?_; conv => whnf) | (refine Rn.reg ?_; conv => whnf) | (refine Rn.drw ?_; conv => whnf) | (refine Rn.blk ?_; conv => whnf) | (refine Rn.skip ?_; conv => whnf) | (refine Rn.ret ?_; conv => whnf) | (refine Rn.exit ?_; conv => whnf) | (refine Rn.cond rfl ?_; conv => whnf) | (refine And.intro (InR.i64 (by omega) (by omega)) ?_; conv => whnf) | (refine WIx.intsN (by omega) ?_; conv => whnf) | (refine WIx.rowsN (by omega) ?_; conv => whnf)
      refine WRnd.run rfl rc101a0_ok rc101b0_ok ⟨_, rfl, ?_⟩; conv => whnf
      repeat' first | ((with_reducible apply WB.tt); conv => whnf) | ((with_reducible apply WB.ff); conv => whnf) | (refine Rn.seq ?_; conv => whnf) | (refine Rn.reg ?_; conv => whnf) | (refine Rn.drw ?_; conv => whnf) | (refine Rn.blk ?_; conv => whnf) | (refine Rn.skip ?_; conv => whnf) | (refine Rn.ret ?_; conv => whnf) | (refine Rn.exit ?_; conv => whnf) | (refine Rn.cond rfl ?_; conv => whnf) | (refine And.intro (InR.i64 (by omega) (by omega)) ?_; conv => whnf) | (refine WIx.intsN (by omega) ?_; conv => whnf) | (refine WIx.rowsN (by omega) ?_; conv => whnf)
      refine ⟨rfl, rfl, _, _, _, _, _, _, rfl, ?_⟩; conv => whnf
      repeat' first | ((with_reducible apply WB.tt); conv => whnf) | ((with_reducible apply WB.ff); conv => whnf) | (refine Rn.seq ?_; conv => whnf) | (refine Rn.reg ?_; conv => whnf) | (refine Rn.drw ?_; conv => whnf) | (refine Rn.blk ?_; conv => whnf) | (refine Rn.skip ?_; conv => whnf) | (refine Rn.ret ?_; conv => whnf) | (refine Rn.exit ?_; conv => whnf) | (refine Rn.cond rfl ?_; conv => whnf) | (refine And.intro (InR.i64 (by omega) (by omega)) ?_; conv => whnf) | (refine WIx.intsN (by omega) ?_; conv => whnf) | (refine WIx.rowsN (by omega) ?_; conv => whnf)
      refine WSt.app_first (r := nums c) rfl (.inl rfl) rfl rfl rfl rfl ?_; conv => whnf
      repeat' first | ((with_reducible apply WB.tt); conv => whnf) | ((with_reducible apply WB.ff); conv => whnf) | (refine Rn.seq ?_; conv => whnf) | (refine Rn.reg ?_; conv => whnf) | (refine Rn.drw ?_; conv => whnf) | (refine Rn.blk ?_; conv => whnf) | (refine Rn.skip ?_; conv => whnf) | (refine Rn.ret ?_; conv => whnf) | (refine Rn.exit ?_; conv => whnf) | (refine Rn.cond rfl ?_; conv => whnf) | (refine And.intro (InR.i64 (by omega) (by omega)) ?_; conv => whnf) | (refine WIx.intsN (by omega) ?_; conv => whnf) | (refine WIx.rowsN (by omega) ?_; conv => whnf)
      refine ⟨_, _, _, _, _, _, _, trC (some (.cells false [.o (slD [c]) 0] 1)) (some (lpA (row5 l cs wr off tr) .ready)) (some (.cells false [.o (.yl (.o .h)) 0] 1)) none (some (lpB (row5 l cs wr off tr) .busy)) (some (.cells false [.o (.yl (.i (.o .h))) 0] 1)) (some (.cells false (ncel c) 1)) (some (.cells false [.o (.fn p100 [] [.pl (row5 l cs wr off tr) 0, .pt (.o (.i .h)) 0 0, .pt (.i (.i .h)) 0 0, .pt (.o (.o (.o .h))) 0 0]) 0] 1)) (blkO [c]), ten13, rfl, rfl, ?_, Nat.le_of_ble_eq_true rfl, ?_⟩
      · refine Shr.kp ?_ ?_
        · (repeat' first | exact T.le_e _ | refine T.le_some ?_ rfl ?_ | refine T.le_none ?_ ?_)
        · show TAll (fun id c => id.nat < 13 ∧ KpC 13 c) _
          unfold trC
          repeat' first | exact TAll.e | refine TAll.some ?_ ?_ ?_ | refine TAll.none ?_ ?_
          all_goals refine ⟨by simp [Pos.nat], ?_⟩
          all_goals first
            | exact lpA_kp hr _ (by omega)
            | exact lpB_kp hr _ (by omega)
            | exact ncel_kp _ _ _
            | exact flat9_kp _ [c] _
            | (refine one_kp ?_; simp [slD, Kp, KpL, Pu, hr, Pos.nat]; done)
      · conv => whnf
        repeat' first | ((with_reducible apply WB.tt); conv => whnf) | ((with_reducible apply WB.ff); conv => whnf) | (refine Rn.seq ?_; conv => whnf) | (refine Rn.reg ?_; conv => whnf) | (refine Rn.drw ?_; conv => whnf) | (refine Rn.blk ?_; conv => whnf) | (refine Rn.skip ?_; conv => whnf) | (refine Rn.ret ?_; conv => whnf) | (refine Rn.exit ?_; conv => whnf) | (refine Rn.cond rfl ?_; conv => whnf) | (refine And.intro (InR.i64 (by omega) (by omega)) ?_; conv => whnf) | (refine WIx.intsN (by omega) ?_; conv => whnf) | (refine WIx.rowsN (by omega) ?_; conv => whnf)
        refine WB.mk (fun e => by cases e) (fun _ => ?_); conv => whnf
        repeat' first | ((with_reducible apply WB.tt); conv => whnf) | ((with_reducible apply WB.ff); conv => whnf) | (refine Rn.seq ?_; conv => whnf) | (refine Rn.reg ?_; conv => whnf) | (refine Rn.drw ?_; conv => whnf) | (refine Rn.blk ?_; conv => whnf) | (refine Rn.skip ?_; conv => whnf) | (refine Rn.ret ?_; conv => whnf) | (refine Rn.exit ?_; conv => whnf) | (refine Rn.cond rfl ?_; conv => whnf) | (refine And.intro (InR.i64 (by omega) (by omega)) ?_; conv => whnf) | (refine WIx.intsN (by omega) ?_; conv => whnf) | (refine WIx.rowsN (by omega) ?_; conv => whnf)
        refine ⟨_, _, _, _, _, _, _, (ownS (row5 l cs wr off tr) (ownB l.length cs wr off)).ob (row5 l cs wr off tr) [c] c, ten13, rfl, rfl, Shr.kp ?_ (ownS_kp hr _ [c] c), Nat.le_of_ble_eq_true rfl, k⟩
        unfold Cns.ob trC
        (repeat' first | exact T.le_e _ | refine T.le_some ?_ rfl ?_ | refine T.le_none ?_ ?_ | refine T.le_same ?_ ?_)
    · have hst : (ownS (row5 l cs wr off tr) (ownB l.length cs wr off)).step [] c = [] := by
        show (bif ownB l.length cs wr off c then _ else _) = _
        rw [show ownB l.length cs wr off c = false from h]; rfl
      rw [hst] at k
      repeat' first | ((with_reducible apply WB.tt); conv => whnf) | ((with_reducible apply WB.ff); conv => whnf) | (refine Rn.seq ?_; conv => whnf) | (refine Rn.reg ?_; conv => whnf) | (refine Rn.drw ?_; conv => whnf) | (refine Rn.blk ?_; conv => whnf) | (refine Rn.skip ?_; conv => whnf) | (refine Rn.ret ?_; conv => whnf) | (refine Rn.exit ?_; conv => whnf) | (refine Rn.cond rfl ?_; conv => whnf) | (refine And.intro (InR.i64 (by omega) (by omega)) ?_; conv => whnf) | (refine WIx.intsN (by omega) ?_; conv => whnf) | (refine WIx.rowsN (by omega) ?_; conv => whnf)
      refine ⟨_, _, _, _, _, _, _, (ownS (row5 l cs wr off tr) (ownB l.length cs wr off)).ob (row5 l cs wr off tr) [] c, nine9, rfl, rfl, Shr.kp ?_ (ownS_kp hr _ [] c), Nat.le_refl _, k⟩
      (repeat' first | exact T.le_e _ | refine T.le_some ?_ rfl ?_ | refine T.le_none ?_ ?_)
  | cons a s =>
    have hs : s.length + 1 < 1024 := by simpa using hs
    refine WRnd.run rfl rc102a0_ok rc102b0_ok ⟨_, rfl, ?_⟩; conv => whnf
    repeat' first | ((with_reducible apply WB.tt); conv => whnf) | ((with_reducible apply WB.ff); conv => whnf) | (refine Rn.seq ?_; conv => whnf) | (refine Rn.reg ?_; conv => whnf) | (refine Rn.drw ?_; conv => whnf) | (refine Rn.blk ?_; conv => whnf) | (refine Rn.skip ?_; conv => whnf) | (refine Rn.ret ?_; conv => whnf) | (refine Rn.exit ?_; conv => whnf) | (refine Rn.cond rfl ?_; conv => whnf) | (refine And.intro (InR.i64 (by omega) (by omega)) ?_; conv => whnf) | (refine WIx.intsN (by omega) ?_; conv => whnf) | (refine WIx.rowsN (by omega) ?_; conv => whnf)
    refine ⟨rfl, rfl, _, _, _, _, _, _, rfl, ?_⟩; conv => whnf
    repeat' first | ((with_reducible apply WB.tt); conv => whnf) | ((with_reducible apply WB.ff); conv => whnf) | (refine Rn.seq ?_; conv => whnf) | (refine Rn.reg ?_; conv => whnf) | (refine Rn.drw ?_; conv => whnf) | (refine Rn.blk ?_; conv => whnf) | (refine Rn.skip ?_; conv => whnf) | (refine Rn.ret ?_; conv => whnf) | (refine Rn.exit ?_; conv => whnf) | (refine Rn.cond rfl ?_; conv => whnf) | (refine And.intro (InR.i64 (by omega) (by omega)) ?_; conv => whnf) | (refine WIx.intsN (by omega) ?_; conv => whnf) | (refine WIx.rowsN (by omega) ?_; conv => whnf) | (refine WCall.pure (c_isOwn l cs wr off tr htr (c 0) (c 1) (c 2) (c 3) (c 4) (c 5) (c 6) (c 7) (c 8) hc.bits hl hcs hn) ?_; conv => whnf)
    refine WB.mk (fun h => ?_) (fun h => ?_) <;> conv => whnf
    · have hst : (ownS (row5 l cs wr off tr) (ownB l.length cs wr off)).step (a :: s) c = a :: (s ++ [c]) := by
        show (bif ownB l.length cs wr off c then _ else _) = _
        rw [show ownB l.length cs wr off c = true from h]; rfl
      rw [hst] at k
      have hbl : blkO (a :: (s ++ [c])) = some (.cells false ((flat9 (a :: s) ++ nums c).map fun d => Cell.o d (s.length + 1)) (s.length + 1 + 1)) := by
        simp [blkO, flat9]
      have hsd : slD (a :: (s ++ [c])) = .sl (.o (.o (.i .h))) 0 (s.length + 1 + 1) (s.length + 1) 9 := by
        simp [slD]
      repeat' first | ((with_reducible apply WB.tt); conv => whnf) | ((with_reducible apply WB.ff); conv => whnf) | (refine Rn.seq ?_; conv => whnf) | (refine Rn.reg ?_; conv => whnf) | (refine Rn.drw ?_; conv => whnf) | (refine Rn.blk ?_; conv => whnf) | (refine Rn.skip ?_; conv => whnf) | (refine Rn.ret ?_; conv => whnf) | (refine Rn.exit ?_; conv => whnf) | (refine Rn.cond rfl ?_; conv => whnf) | (refine And.intro (InR.i64 (by omega) (by omega)) ?_; conv => whnf) | (refine WIx.intsN (by omega) ?_; conv => whnf) | (refine WIx.rowsN (by omega) ?_; conv => whnf)
      refine WRnd.run rfl rc101a0_ok rc101b0_ok ⟨_, rfl, ?_⟩; conv => whnf
      repeat' first | ((with_reducible apply WB.tt); conv => whnf) | ((with_reducible apply WB.ff); conv => whnf) | (refine Rn.seq ?_; conv => whnf) | (refine Rn.reg ?_; conv => whnf) | (refine Rn.drw ?_; conv => whnf) | (refine Rn.blk ?_; conv => whnf) | (refine Rn.skip ?_; conv => whnf) | (refine Rn.ret ?_; conv => whnf) | (refine Rn.exit ?_; conv => whnf) | (refine Rn.cond rfl ?_; conv => whnf) | (refine And.intro (InR.i64 (by omega) (by omega)) ?_; conv => whnf) | (refine WIx.intsN (by omega) ?_; conv => whnf) | (refine WIx.rowsN (by omega) ?_; conv => whnf)
      refine ⟨rfl, rfl, _, _, _, _, _, _, rfl, ?_⟩; conv => whnf
      repeat' first | ((with_reducible apply WB.tt); conv => whnf) | ((with_reducible apply WB.ff); conv => whnf) | (refine Rn.seq ?_; conv => whnf) | (refine Rn.reg ?_; conv => whnf) | (refine Rn.drw ?_; conv => whnf) | (refine Rn.blk ?_; conv => whnf) | (refine Rn.skip ?_; conv => whnf) | (refine Rn.ret ?_; conv => whnf) | (refine Rn.exit ?_; conv => whnf) | (refine Rn.cond rfl ?_; conv => whnf) | (refine And.intro (InR.i64 (by omega) (by omega)) ?_; conv => whnf) | (refine WIx.intsN (by omega) ?_; conv => whnf) | (refine WIx.rowsN (by omega) ?_; conv => whnf)
      refine WSt.app_one (ds := flat9 (a :: s)) (r := nums c) rfl rfl rfl rfl rfl rfl (by rw [flat9_length]; simp) rfl rfl (by omega) rfl ?_; conv => whnf
      repeat' first | ((with_reducible apply WB.tt); conv => whnf) | ((with_reducible apply WB.ff); conv => whnf) | (refine Rn.seq ?_; conv => whnf) | (refine Rn.reg ?_; conv => whnf) | (refine Rn.drw ?_; conv => whnf) | (refine Rn.blk ?_; conv => whnf) | (refine Rn.skip ?_; conv => whnf) | (refine Rn.ret ?_; conv => whnf) | (refine Rn.exit ?_; conv => whnf) | (refine Rn.cond rfl ?_; conv => whnf) | (refine And.intro (InR.i64 (by omega) (by omega)) ?_; conv => whnf) | (refine WIx.intsN (by omega) ?_; conv => whnf) | (refine WIx.rowsN (by omega) ?_; conv => whnf)
      refine ⟨_, _, _, _, _, _, _, trC (some (.cells false [.o (slD (a :: (s ++ [c]))) 0] 1)) (some (lpA (row5 l cs wr off tr) .ready)) (some (.cells false [.o (.yl (.o .h)) 0] 1)) none (some (lpB (row5 l cs wr off tr) .busy)) (some (.cells false [.o (.yl (.i (.o .h))) 0] 1)) (some (.cells false (ncel c) 1)) (some (.cells false [.o (.fn p100 [] [.pl (row5 l cs wr off tr) 0, .pt (.o (.i .h)) 0 0, .pt (.i (.i .h)) 0 0, .pt (.o (.o (.o .h))) 0 0]) 0] 1)) (blkO (a :: (s ++ [c]))), .o (.i (.i .h)), rfl, rfl, ?_, Nat.le_of_ble_eq_true rfl, ?_⟩
      · refine Shr.kpg ?_ ?_
        · rw [hbl, hsd]
          (repeat' first | exact Rel.e | refine Rel.some ?_ ?_ ?_ | refine Rel.none ?_ ?_)
          all_goals first | exact .inl rfl | skip
          exact .inr (ShC.grown (by omega) (PuL_iff.2 fun d hd => by
            rcases List.mem_append.1 hd with hd | hd
            · exact PuL_iff.1 (flat9_pu _) d hd
            · exact PuL_iff.1 (nums_pu _) d hd))
        · show TAll (fun id c => id.nat < 14 ∧ KpC 14 c) _
          rw [hsd]
          unfold trC
          repeat' first | exact TAll.e | refine TAll.some ?_ ?_ ?_ | refine TAll.none ?_ ?_
          all_goals refine ⟨by simp [Pos.nat], ?_⟩
          all_goals first
            | exact lpA_kp hr _ (by omega)
            | exact lpB_kp hr _ (by omega)
            | exact ncel_kp _ _ _
            | exact flat9_kp _ (a :: (s ++ [c])) _
            | (refine one_kp ?_; simp [slD, Kp, KpL, Pu, hr, Pos.nat]; done)
      · conv => whnf
        repeat' first | ((with_reducible apply WB.tt); conv => whnf) | ((with_reducible apply WB.ff); conv => whnf) | (refine Rn.seq ?_; conv => whnf) | (refine Rn.reg ?_; conv => whnf) | (refine Rn.drw ?_; conv => whnf) | (refine Rn.blk ?_; conv => whnf) | (refine Rn.skip ?_; conv => whnf) | (refine Rn.ret ?_; conv => whnf) | (refine Rn.exit ?_; conv => whnf) | (refine Rn.cond rfl ?_; conv => whnf) | (refine And.intro (InR.i64 (by omega) (by omega)) ?_; conv => whnf) | (refine WIx.intsN (by omega) ?_; conv => whnf) | (refine WIx.rowsN (by omega) ?_; conv => whnf)
        refine WB.mk (fun e => by cases e) (fun _ => ?_); conv => whnf
        repeat' first | ((with_reducible apply WB.tt); conv => whnf) | ((with_reducible apply WB.ff); conv => whnf) | (refine Rn.seq ?_; conv => whnf) | (refine Rn.reg ?_; conv => whnf) | (refine Rn.drw ?_; conv => whnf) | (refine Rn.blk ?_; conv => whnf) | (refine Rn.skip ?_; conv => whnf) | (refine Rn.ret ?_; conv => whnf) | (refine Rn.exit ?_; conv => whnf) | (refine Rn.cond rfl ?_; conv => whnf) | (refine And.intro (InR.i64 (by omega) (by omega)) ?_; conv => whnf) | (refine WIx.intsN (by omega) ?_; conv => whnf) | (refine WIx.rowsN (by omega) ?_; conv => whnf)
        refine ⟨_, _, _, _, _, _, _, (ownS (row5 l cs wr off tr) (ownB l.length cs wr off)).ob (row5 l cs wr off tr) (a :: (s ++ [c])) c, ten13, rfl, rfl, Shr.kp ?_ (ownS_kp hr _ (a :: (s ++ [c])) c), Nat.le_refl _, k⟩
        unfold Cns.ob trC
        (repeat' first | exact T.le_e _ | refine T.le_some ?_ rfl ?_ | refine T.le_none ?_ ?_ | refine T.le_same ?_ ?_)
    · have hst : (ownS (row5 l cs wr off tr) (ownB l.length cs wr off)).step (a :: s) c = a :: s := by
        show (bif ownB l.length cs wr off c then _ else _) = _
        rw [show ownB l.length cs wr off c = false from h]; rfl
      rw [hst] at k
      repeat' first | ((with_reducible apply WB.tt); conv => whnf) | ((with_reducible apply WB.ff); conv => whnf) | (refine Rn.seq ?_; conv => whnf) | (refine Rn.reg ?_; conv => whnf) | (refine Rn.drw ?_; conv => whnf) | (refine Rn.blk ?_; conv => whnf) | (refine Rn.skip ?_; conv => whnf) | (refine Rn.ret ?_; conv => whnf) | (refine Rn.exit ?_; conv => whnf) | (refine Rn.cond rfl ?_; conv => whnf) | (refine And.intro (InR.i64 (by omega) (by omega)) ?_; conv => whnf) | (refine WIx.intsN (by omega) ?_; conv => whnf) | (refine WIx.rowsN (by omega) ?_; conv => whnf)
      refine ⟨_, _, _, _, _, _, _, (ownS (row5 l cs wr off tr) (ownB l.length cs wr off)).ob (row5 l cs wr off tr) (a :: s) c, ten13, rfl, rfl, Shr.kp ?_ (ownS_kp hr _ (a :: s) c), Nat.le_refl _, k⟩
      unfold Cns.ob trC
      (repeat' first | exact T.le_e _ | refine T.le_some ?_ rfl ?_ | refine T.le_none ?_ ?_ | refine T.le_same ?_ ?_)
end Go.Ev

namespace Go.Ev
open Go.Proofs
set_option maxRecDepth 100000
section
variable (l : List Int) (cs : List Cnt) (wr off : Int) (tr : D)
theorem ownS_ok (htr : Pu tr) (hl : l.length ≤ 9) (hcs : ∀ c ∈ cs, cntIn l.length c) (hn : cs.length ≤ 1000) : CnsOk (ownS (row5 l cs wr off tr) (ownB l.length cs wr off)) (row5 l cs wr off tr) List.length 1024 where
  kp s c := ownS_kp (pu_row5 htr) _ s c
  kb s := KpO.le (Cns.le _ (row5 l cs wr off tr) s zero9) (ownS_kp (pu_row5 htr) _ s zero9)
  nx s := by
    rcases ownS_nx (row5 l cs wr off tr) (ownB l.length cs wr off) s with ⟨h, _⟩ | ⟨h, _⟩ <;> rw [h] <;> simp [nine9, ten13, Pos.nat]
  up s c := by
    show _ ≤ ((ownS (row5 l cs wr off tr) (ownB l.length cs wr off)).nx (bif ownB l.length cs wr off c then s ++ [c] else s)).nat
    cases ownB l.length cs wr off c with
    | false => exact Nat.le_refl _
    | true =>
      rcases ownS_nx (row5 l cs wr off tr) (ownB l.length cs wr off) (s ++ [c]) with ⟨_, h⟩ | ⟨h, _⟩
      · simp at h
      · rw [show (bif true then s ++ [c] else s) = s ++ [c] from rfl, h]
        rcases ownS_nx (row5 l cs wr off tr) (ownB l.length cs wr off) s with ⟨h, _⟩ | ⟨h, _⟩ <;> rw [h] <;> simp [nine9, ten13, Pos.nat]
  wt1 s c := by
    show (bif ownB l.length cs wr off c then s ++ [c] else s).length ≤ _
    cases ownB l.length cs wr off c <;> simp
  rnd s c hc hs sl d K k := own_rnd l cs wr off tr htr hl hcs hn s c hc hs sl d K k
end
theorem c_agr1G {σ : Type} (S : Cns σ) (wt : σ → Nat) (l : List Int) (cs : List Cnt) (wr off : Int) (tr : D) (htr : Pu tr) (hl : l.length ≤ 9) (H : CnsOk S (row5 l cs wr off tr) wt 1024) (s : σ) (hw : wt s + (extsF l l.length 0 zero9).length ≤ 1024) (hnx : S.nx s = nine9) :
    ∃ v ob', (v = .tp [] ∧ ob' = S.base (foldS S (extsF l l.length 0 zero9) s).1) ∧ CallOk Try.prog p99.ix [.yl (.i (.o .h)), .pl (row5 l cs wr off tr) 0] (S.base s) six6 none v ob' (S.nx (foldS S (extsF l l.length 0 zero9) s).1) none := by
  have hr := pu_row5 (l := l) (cs := cs) (wr := wr) (off := off) htr
  obtain ⟨v, ob', ⟨c2, hb2, hf2, rfl, rfl⟩, C⟩ := c_chooseG S wt l cs wr off tr htr hl H _ 0 rfl (Nat.zero_le _) zero9 (fun _ => .inl rfl) s hw
  have hup := H.fup (extsF l l.length 0 zero9) s
  rw [Nat.sub_zero] at C
  rw [hnx] at C hup
  refine CallOk.runE fn98 (by simp) (Nat.le_trans (by simp [six6, nine9, Pos.nat]) hup) ?_; conv => whnf
  repeat' first | ((with_reducible apply WB.tt); conv => whnf) | ((with_reducible apply WB.ff); conv => whnf) | (refine Rn.seq ?_; conv => whnf) | (refine Rn.reg ?_; conv => whnf) | (refine Rn.drw ?_; conv => whnf) | (refine Rn.blk ?_; conv => whnf) | (refine Rn.skip ?_; conv => whnf) | (refine Rn.ret ?_; conv => whnf) | (refine Rn.exit ?_; conv => whnf) | (refine Rn.cond rfl ?_; conv => whnf) | (refine And.intro (InR.i64 (by omega) (by omega)) ?_; conv => whnf) | (refine WIx.intsN (by omega) ?_; conv => whnf) | (refine WIx.rowsN (by omega) ?_; conv => whnf)
  refine WCall.at C ?_; conv => whnf
  repeat' first | ((with_reducible apply WB.tt); conv => whnf) | ((with_reducible apply WB.ff); conv => whnf) | (refine Rn.seq ?_; conv => whnf) | (refine Rn.reg ?_; conv => whnf) | (refine Rn.drw ?_; conv => whnf) | (refine Rn.blk ?_; conv => whnf) | (refine Rn.skip ?_; conv => whnf) | (refine Rn.ret ?_; conv => whnf) | (refine Rn.exit ?_; conv => whnf) | (refine Rn.cond rfl ?_; conv => whnf) | (refine And.intro (InR.i64 (by omega) (by omega)) ?_; conv => whnf) | (refine WIx.intsN (by omega) ?_; conv => whnf) | (refine WIx.rowsN (by omega) ?_; conv => whnf)
  exact ⟨_, _, ⟨rfl, rfl⟩, ⟨.inl rfl, ⟨_, rfl, .pu trivial⟩, Shr.kp (Cns.le _ _ _ _) (H.kb _)⟩⟩
def truthsF (l : List Int) (cs : List Cnt) (wr off : Int) : List (Nat → Int) := (extsF l l.length 0 zero9).filter (ownB l.length cs wr off)
theorem truthsF_len (l : List Int) (cs : List Cnt) (wr off : Int) (hl : l.length ≤ 9) : (truthsF l cs wr off).length ≤ 512 := by
  have h1 := List.length_filter_le (ownB l.length cs wr off) (extsF l l.length 0 zero9)
  have h2 := extsF_len l l.length 0 zero9
  have h3 : 2 ^ l.length ≤ 2 ^ 9 := Nat.pow_le_pow_right (by omega) hl
  unfold truthsF
  omega
theorem truthsF_bit {l : List Int} {cs : List Cnt} {wr off : Int} {c : Nat → Int} (h : c ∈ truthsF l cs wr off) : bit2 c :=
  extsF_bit l _ _ zero9 (fun _ => .inl rfl) c (List.mem_filter.1 h).1
noncomputable def ownE (row : List D) (r : List (Nat → Int)) : T C := trC (some (.cells false [.o (slD r) 0] 1)) (some (lpA row .ready)) none none none none none none (blkO r)
theorem ownE_le (row : List D) (B : (Nat → Int) → Bool) (r : List (Nat → Int)) : T.le (ownE row r) ((ownS row B).base r) := by
  unfold ownE Cns.base trC
  repeat' first | exact T.le_refl _ | exact T.le_e _ | refine T.le_same ?_ ?_ | refine T.le_none ?_ ?_
theorem c_own1 (l : List Int) (cs : List Cnt) (wr off : Int) (tr : D) (htr : Pu tr) (hl : l.length ≤ 9) (hcs : ∀ c ∈ cs, cntIn l.length c) (hn : cs.length ≤ 1000) :
    ∃ v ob', (v = .tp [] ∧ ob' = ownE (row5 l cs wr off tr) (truthsF l cs wr off)) ∧ CallOk Try.prog p103.ix [.yl (.o .h), .pl (row5 l cs wr off tr) 0] (.n (.n .e (some (lpA (row5 l cs wr off tr) .ready)) .e) (some (.cells false [.o .ns 0] 1)) .e) (.i .h) none v ob' ((ownS (row5 l cs wr off tr) (ownB l.length cs wr off)).nx (truthsF l cs wr off)) none := by
  have hr := pu_row5 (l := l) (cs := cs) (wr := wr) (off := off) htr
  have H := ownS_ok l cs wr off tr htr hl hcs hn
  have hlen : (extsF l l.length 0 zero9).length ≤ 1024 := by
    have h2 := extsF_len l l.length 0 zero9
    have h3 : 2 ^ l.length ≤ 2 ^ 9 := Nat.pow_le_pow_right (by omega) hl
    omega
  obtain ⟨v, ob', ⟨rfl, rfl⟩, C⟩ := c_agr1G _ List.length l cs wr off tr htr hl H [] (by simpa using hlen) rfl
  rw [ownS_fold, List.nil_append] at C
  have hnx := H.nx (truthsF l cs wr off)
  refine CallOk.runE fn102 (by simp) (Nat.le_trans (by simp [nine9, Pos.nat]) hnx) ?_; conv => whnf
  repeat' first | ((with_reducible apply WB.tt); conv => whnf) | ((with_reducible apply WB.ff); conv => whnf) | (refine Rn.seq ?_; conv => whnf) | (refine Rn.reg ?_; conv => whnf) | (refine Rn.drw ?_; conv => whnf) | (refine Rn.blk ?_; conv => whnf) | (refine Rn.skip ?_; conv => whnf) | (refine Rn.ret ?_; conv => whnf) | (refine Rn.exit ?_; conv => whnf) | (refine Rn.cond rfl ?_; conv => whnf) | (refine And.intro (InR.i64 (by omega) (by omega)) ?_; conv => whnf) | (refine WIx.intsN (by omega) ?_; conv => whnf) | (refine WIx.rowsN (by omega) ?_; conv => whnf) | (refine WCall.pure (c_agreeing l cs wr off tr htr) ?_; conv => whnf)
  refine Rn.le (a := ⟨(.n (.n .e (some (.pl (row5 l cs wr off tr) 0)) (.n .e (some (.fn p99 [] [.pl (row5 l cs wr off tr) 0])) .e)) none (.n .e (some (.pt (.i .h) 0 0)) .e)), trC (some (.cells false [.o .ns 0] 1)) (some (lpA (row5 l cs wr off tr) .ready)) (some (.cells false [.o (.yl (.o .h)) 0] 1)) none none none none none none, .i (.o .h), none⟩) ?_ ?_
  · refine Rn.rf rfl rfl C rfl (by simp) ?_; conv => whnf
    repeat' first | ((with_reducible apply WB.tt); conv => whnf) | ((with_reducible apply WB.ff); conv => whnf) | (refine Rn.seq ?_; conv => whnf) | (refine Rn.reg ?_; conv => whnf) | (refine Rn.drw ?_; conv => whnf) | (refine Rn.blk ?_; conv => whnf) | (refine Rn.skip ?_; conv => whnf) | (refine Rn.ret ?_; conv => whnf) | (refine Rn.exit ?_; conv => whnf) | (refine Rn.cond rfl ?_; conv => whnf) | (refine And.intro (InR.i64 (by omega) (by omega)) ?_; conv => whnf) | (refine WIx.intsN (by omega) ?_; conv => whnf) | (refine WIx.rowsN (by omega) ?_; conv => whnf)
    refine ⟨_, _, ⟨rfl, rfl⟩, ⟨.inl rfl, ⟨_, rfl, .pu trivial⟩, Shr.kp ?_ (KpO.le (ownE_le _ _ _) (H.kb _))⟩⟩
    unfold ownE trC
    repeat' first | exact T.le_refl _ | exact T.le_e _ | refine T.le_same ?_ ?_ | refine T.le_none ?_ ?_
  · refine X.le.mk ?_ ?_ (by simp [Pos.nat]) rfl rfl <;> (try unfold trC) <;> (repeat' first | exact T.le_e _ | refine T.le_some ?_ rfl ?_ | refine T.le_none ?_ ?_ | refine T.le_ee ?_ ?_)
def tl9 (r : List (Nat → Int)) : D := .lst 9 (rows nums r)
theorem rows9_flat (r : List (Nat → Int)) : (rows nums r).flatten = flat9 r := by
  simp [rows, flat9, List.flatMap]
theorem pu_rows9 (r : List (Nat → Int)) : PuE (rows nums r) := pu_rows nums_pu r
theorem c_AppendSeq (l : List Int) (cs : List Cnt) (wr off : Int) (tr : D) (htr : Pu tr) (hl : l.length ≤ 9) (hcs : ∀ c ∈ cs, cntIn l.length c) (hn : cs.length ≤ 1000) : PureF Try.prog p102.ix [.ns, .fn p103 [] [.pl (row5 l cs wr off tr) 0]] (tl9 (truthsF l cs wr off)) := by
  have hr := pu_row5 (l := l) (cs := cs) (wr := wr) (off := off) htr
  obtain ⟨v, ob', ⟨rfl, rfl⟩, C⟩ := c_own1 l cs wr off tr htr hl hcs hn
  refine PureF.run fn101 (by simp) (by simp [PuL, Pu, hr]) ?_; conv => whnf
  repeat' first | ((with_reducible apply WB.tt); conv => whnf) | ((with_reducible apply WB.ff); conv => whnf) | (refine Rn.seq ?_; conv => whnf) | (refine Rn.reg ?_; conv => whnf) | (refine Rn.drw ?_; conv => whnf) | (refine Rn.blk ?_; conv => whnf) | (refine Rn.skip ?_; conv => whnf) | (refine Rn.ret ?_; conv => whnf) | (refine Rn.exit ?_; conv => whnf) | (refine Rn.cond rfl ?_; conv => whnf) | (refine And.intro (InR.i64 (by omega) (by omega)) ?_; conv => whnf) | (refine WIx.intsN (by omega) ?_; conv => whnf) | (refine WIx.rowsN (by omega) ?_; conv => whnf)
  refine Rn.le (a := ⟨(.n .e none (.n .e (some (.pt .h 0 0)) (.n .e (some (.fn p103 [] [.pl (row5 l cs wr off tr) 0])) .e))), (.n .e (some (.cells false [.o .ns 0] 1)) .e), .o .h, none⟩) ?_ ?_
  · refine Rn.rf rfl rfl C rfl (by simp) ?_; conv => whnf
    repeat' first | ((with_reducible apply WB.tt); conv => whnf) | ((with_reducible apply WB.ff); conv => whnf) | (refine Rn.seq ?_; conv => whnf) | (refine Rn.reg ?_; conv => whnf) | (refine Rn.drw ?_; conv => whnf) | (refine Rn.blk ?_; conv => whnf) | (refine Rn.skip ?_; conv => whnf) | (refine Rn.ret ?_; conv => whnf) | (refine Rn.exit ?_; conv => whnf) | (refine Rn.cond rfl ?_; conv => whnf) | (refine And.intro (InR.i64 (by omega) (by omega)) ?_; conv => whnf) | (refine WIx.intsN (by omega) ?_; conv => whnf) | (refine WIx.rowsN (by omega) ?_; conv => whnf)
    refine Fin.t (.inr rfl) rfl ?_
    cases hT : truthsF l cs wr off with
    | nil => exact Fz.ns
    | cons a r => 
      refine Frz.whole (cs := (flat9 (a :: r)).map fun d => Cell.o d r.length) (cur := r.length + 1) rfl (by simp [rows]) (fun x hx => ?_) (by rw [rows9_flat]) (pu_rows9 _)
      obtain ⟨c, _, rfl⟩ := List.mem_map.1 hx
      rfl
  · refine X.le.mk ?_ ?_ (Nat.le_refl _) rfl rfl <;> (repeat' first | exact T.le_e _ | refine T.le_some ?_ rfl ?_ | refine T.le_none ?_ ?_)
theorem c_Collect (l : List Int) (cs : List Cnt) (wr off : Int) (tr : D) (htr : Pu tr) (hl : l.length ≤ 9) (hcs : ∀ c ∈ cs, cntIn l.length c) (hn : cs.length ≤ 1000) : PureF Try.prog p92.ix [.fn p103 [] [.pl (row5 l cs wr off tr) 0]] (tl9 (truthsF l cs wr off)) := by
  have hr := pu_row5 (l := l) (cs := cs) (wr := wr) (off := off) htr
  refine PureF.run fn91 (by simp) (by simp [PuL, Pu, hr]) ?_; conv => whnf
  repeat' first | ((with_reducible apply WB.tt); conv => whnf) | ((with_reducible apply WB.ff); conv => whnf) | (refine Rn.seq ?_; conv => whnf) | (refine Rn.reg ?_; conv => whnf) | (refine Rn.drw ?_; conv => whnf) | (refine Rn.blk ?_; conv => whnf) | (refine Rn.skip ?_; conv => whnf) | (refine Rn.ret ?_; conv => whnf) | (refine Rn.exit ?_; conv => whnf) | (refine Rn.cond rfl ?_; conv => whnf) | (refine And.intro (InR.i64 (by omega) (by omega)) ?_; conv => whnf) | (refine WIx.intsN (by omega) ?_; conv => whnf) | (refine WIx.rowsN (by omega) ?_; conv => whnf) | (refine WCall.pure (c_AppendSeq l cs wr off tr htr hl hcs hn) ?_; conv => whnf)
  exact Fin.t (.inr rfl) rfl (.pu (by simp [tl9, Pu, pu_rows9]))
theorem c_own (l : List Int) (cs : List Cnt) (wr off : Int) (tr : D) (htr : Pu tr) : PureF Try.prog p93.ix [.ag [.lst 1 (ints l), .lst 3 (rows cntD cs), .i .i64 wr, .i .i64 off, tr]] (.fn p103 [] [.pl (row5 l cs wr off tr) 0]) := by
  refine PureF.run fn92 (by simp) (by simp [PuL, PuE, Pu, pu_ints, pu_cnts, htr]) ?_; conv => whnf
  repeat' first | ((with_reducible apply WB.tt); conv => whnf) | ((with_reducible apply WB.ff); conv => whnf) | (refine Rn.seq ?_; conv => whnf) | (refine Rn.reg ?_; conv => whnf) | (refine Rn.drw ?_; conv => whnf) | (refine Rn.blk ?_; conv => whnf) | (refine Rn.skip ?_; conv => whnf) | (refine Rn.ret ?_; conv => whnf) | (refine Rn.exit ?_; conv => whnf) | (refine Rn.cond rfl ?_; conv => whnf) | (refine And.intro (InR.i64 (by omega) (by omega)) ?_; conv => whnf) | (refine WIx.intsN (by omega) ?_; conv => whnf) | (refine WIx.rowsN (by omega) ?_; conv => whnf)
  refine Fin.t (.inr rfl) rfl (.fn .nil (.cons (Frz.ptr rfl rfl (by simp [row5]) (by simp [row5, PuL, Pu, pu_ints, pu_cnts, htr])) .nil))
end Go.Ev

namespace Go.Ev
open Go.Proofs
set_option maxRecDepth 100000
theorem pu_tl9 (r : List (Nat → Int)) : Pu (tl9 r) := by simp [tl9, Pu, pu_rows9]
def startE (l : List Int) (cs : List Cnt) (wr off f t : Int) : Int := if faultR l cs wr off = 0 then (if (inB f 0 t && decide (t < l.length)) = true then (if truthsF l cs wr off = [] then 11 else 0) else 2) else faultR l cs wr off
def startW (l : List Int) (cs : List Cnt) (wr off f t : Int) : List D := if startE l cs wr off f t = 0 then [.lst 1 (ints l), .lst 3 (rows cntD cs), .i .i64 wr, .i .i64 off, tl9 (truthsF l cs wr off)] else [.ns, .ns, .i .i64 0, .i .i64 0, .ns]
theorem c_start (l : List Int) (cs : List Cnt) (wr off f t : Int) : PureF Try.prog p74.ix [.ag [.lst 1 (ints l), .lst 3 (rows cntD cs), .i .i64 wr, .i .i64 off], .ag [.i .i64 f, .i .i64 t]] (.tp [.ag (startW l cs wr off f t), .i .i64 (startE l cs wr off f t)]) := by
  have e1 := ints_length l
  refine PureF.run fn73 (by simp) (by simp [PuL, PuE, Pu, pu_ints, pu_cnts]) ?_; conv => whnf
  repeat' first | ((with_reducible apply WB.tt); conv => whnf) | ((with_reducible apply WB.ff); conv => whnf) | (refine Rn.seq ?_; conv => whnf) | (refine Rn.reg ?_; conv => whnf) | (refine Rn.drw ?_; conv => whnf) | (refine Rn.blk ?_; conv => whnf) | (refine Rn.skip ?_; conv => whnf) | (refine Rn.ret ?_; conv => whnf) | (refine Rn.exit ?_; conv => whnf) | (refine Rn.cond rfl ?_; conv => whnf) | (refine And.intro (InR.i64 (by omega) (by omega)) ?_; conv => whnf) | (refine WIx.intsN (by omega) ?_; conv => whnf) | (refine WIx.rowsN (by omega) ?_; conv => whnf) | (refine WCall.pure (c_CheckRow l cs wr off) ?_; conv => whnf)
  refine WB.mk (fun h => ?_) (fun h => ?_) <;> conv => whnf
  · have hF : ¬ faultR l cs wr off = 0 := by simpa using h
    repeat' first | ((with_reducible apply WB.tt); conv => whnf) | ((with_reducible apply WB.ff); conv => whnf) | (refine Rn.seq ?_; conv => whnf) | (refine Rn.reg ?_; conv => whnf) | (refine Rn.drw ?_; conv => whnf) | (refine Rn.blk ?_; conv => whnf) | (refine Rn.skip ?_; conv => whnf) | (refine Rn.ret ?_; conv => whnf) | (refine Rn.exit ?_; conv => whnf) | (refine Rn.cond rfl ?_; conv => whnf) | (refine And.intro (InR.i64 (by omega) (by omega)) ?_; conv => whnf) | (refine WIx.intsN (by omega) ?_; conv => whnf) | (refine WIx.rowsN (by omega) ?_; conv => whnf)
    have hE : startE l cs wr off f t = faultR l cs wr off := by unfold startE; rw [if_neg hF]
    unfold startW
    rw [hE, if_neg hF]
    exact ⟨.inr rfl, _, rfl, .pu (by simp [Pu, PuL, one])⟩
  · have hF : faultR l cs wr off = 0 := by simpa using h
    obtain ⟨f1, f2, f3, f4⟩ := fault0 hF
    have key : ∀ b : Bool, (inB f 0 t && decide (t < l.length)) = b → startE l cs wr off f t = if b = true then (if truthsF l cs wr off = [] then 11 else 0) else 2 := fun b hb => by
      unfold startE; rw [if_pos hF, hb]
    repeat' first | ((with_reducible apply WB.tt); conv => whnf) | ((with_reducible apply WB.ff); conv => whnf) | (refine Rn.seq ?_; conv => whnf) | (refine Rn.reg ?_; conv => whnf) | (refine Rn.drw ?_; conv => whnf) | (refine Rn.blk ?_; conv => whnf) | (refine Rn.skip ?_; conv => whnf) | (refine Rn.ret ?_; conv => whnf) | (refine Rn.exit ?_; conv => whnf) | (refine Rn.cond rfl ?_; conv => whnf) | (refine And.intro (InR.i64 (by omega) (by omega)) ?_; conv => whnf) | (refine WIx.intsN (by omega) ?_; conv => whnf) | (refine WIx.rowsN (by omega) ?_; conv => whnf) | (refine WCall.pure (c_upTo _ _) ?_; conv => whnf) | (refine WCall.pure (c_own l cs wr off .ns trivial) ?_; conv => whnf) | (refine WCall.pure (c_Collect l cs wr off .ns trivial f2 f4 (by omega)) ?_; conv => whnf) | ((with_reducible refine WB.dec (fun h => ?_) (fun h => ?_)) <;> conv => whnf) | ((with_reducible refine WB.ndec (fun h => ?_) (fun h => ?_)) <;> conv => whnf) | (refine WB.mk (fun h => ?_) (fun h => ?_) <;> conv => whnf)
    · have hE : startE l cs wr off f t = 2 := key false (by
        have : inB f 0 t = false := by simpa using h
        rw [this]; rfl)
      unfold startW
      rw [hE, if_neg (by omega)]
      exact ⟨.inr rfl, _, rfl, .pu (by simp [Pu, PuL, one])⟩
    · have hE : startE l cs wr off f t = 2 := key false (by
        rw [decide_eq_false (by omega), Bool.and_false])
      unfold startW
      rw [hE, if_neg (by omega)]
      exact ⟨.inr rfl, _, rfl, .pu (by simp [Pu, PuL, one])⟩
    all_goals
      have hi : (inB f 0 t && decide (t < l.length)) = true := by
        have : inB f 0 t = true := by
          have : (!inB f 0 t) = false := by assumption
          simpa using this
        rw [this, decide_eq_true (by omega)]; rfl
      have e3 := rows_length nums (truthsF l cs wr off)
    · have hE : startE l cs wr off f t = 11 := by
        rw [key true hi, if_pos rfl, if_pos (List.length_eq_zero_iff.1 (by omega))]
      unfold startW
      rw [hE, if_neg (by omega)]
      exact ⟨.inr rfl, _, rfl, .pu (by simp [Pu, PuL, one])⟩
    · have hE : startE l cs wr off f t = 0 := by
        rw [key true hi, if_pos rfl, if_neg (fun h0 => absurd (show ((rows nums (truthsF l cs wr off)).length : Int) = 0 by rw [e3, h0]; rfl) (by assumption))]
      unfold startW
      rw [hE, if_pos rfl]
      exact ⟨.inr rfl, _, rfl, .pu (by simp [Pu, PuL, one, pu_ints, pu_cnts, pu_tl9])⟩
theorem c_answers (l : List Int) (cs : List Cnt) (wr off : Int) (Ts : List (Nat → Int)) (hT : Ts.length ≤ 1000) (q : Pos) (f t : Int) (g : (Nat → Int) → Int) (hg : ∀ c ∈ Ts, PureF Try.prog q.ix [.ag [.lst 1 (ints l), .lst 3 (rows cntD cs), .i .i64 wr, .i .i64 off, tl9 Ts], .ag [.i .i64 (c 0), .i .i64 (c 1), .i .i64 (c 2), .i .i64 (c 3), .i .i64 (c 4), .i .i64 (c 5), .i .i64 (c 6), .i .i64 (c 7), .i .i64 (c 8)], .ag [.i .i64 f, .i .i64 t]] (.i .i64 (g c))) :
    PureF Try.prog p94.ix [.ag [.lst 1 (ints l), .lst 3 (rows cntD cs), .i .i64 wr, .i .i64 off, tl9 Ts], .ag [.fn q [] [], .i .i64 f, .i .i64 t]] (.lst 1 (ints (Ts.map g))) := by
  have e2 := rows_length nums Ts
  have pt := pu_tl9 Ts
  generalize hE : Ts.map g = E
  have hEl : E.length = Ts.length := by rw [← hE]; simp
  have hEg : ∀ j, j < Ts.length → g (Ts.getD j default) = E.getD j 0 := fun j hj => by
    rw [← hE]; simp [List.getD, hj]
  refine PureF.run fn93 (by simp) (by simp [PuL, PuE, Pu, pu_ints, pu_cnts, pt]) ?_; conv => whnf
  repeat' first | ((with_reducible apply WB.tt); conv => whnf) | ((with_reducible apply WB.ff); conv => whnf) | (refine Rn.seq ?_; conv => whnf) | (refine Rn.reg ?_; conv => whnf) | (refine Rn.drw ?_; conv => whnf) | (refine Rn.blk ?_; conv => whnf) | (refine Rn.skip ?_; conv => whnf) | (refine Rn.ret ?_; conv => whnf) | (refine Rn.exit ?_; conv => whnf) | (refine Rn.cond rfl ?_; conv => whnf) | (refine And.intro (InR.i64 (by omega) (by omega)) ?_; conv => whnf) | (refine WIx.intsN (by omega) ?_; conv => whnf) | (refine WIx.rowsN (by omega) ?_; conv => whnf)
  refine Rn.loop (fun j : Nat => match j with
    | 0 => ⟨(.n (.n (.n .e (some (.pt (.o .h) 0 0)) (.n .e (some (.i .i64 0)) .e)) none (.n (.n .e (some (tl9 Ts)) .e) (some (.ns)) .e)) none (.n .e (some (.pt .h 0 0)) (.n (.n .e (some (.i .i64 ((rows nums Ts).length : Int))) .e) none .e))), (.n (.n .e (some (.cells false [.o (.fn q [] []) 0, .o (.i .i64 f) 0, .o (.i .i64 t) 0] 1)) .e) (some (.cells false [.o (.lst 1 (ints l)) 0, .o (.lst 3 (rows cntD cs)) 0, .o (.i .i64 wr) 0, .o (.i .i64 off) 0, .o (tl9 Ts) 0] 1)) .e), .i .h, none⟩
    | j + 1 => ⟨(.n (.n (.n .e (some (.pt (.o .h) 0 0)) (.n .e (some (.i .i64 ((j + 1 : Nat) : Int))) .e)) none (.n (.n .e (some (tl9 Ts)) .e) (some (.sl (.i (.o .h)) 0 (j + 1) j 1)) .e)) none (.n .e (some (.pt .h 0 0)) (.n (.n .e (some (.i .i64 ((rows nums Ts).length : Int))) .e) none .e))), (.n (.n .e (some (.cells false [.o (.fn q [] []) 0, .o (.i .i64 f) 0, .o (.i .i64 t) 0] 1)) .e) (some (.cells false [.o (.lst 1 (ints l)) 0, .o (.lst 3 (rows cntD cs)) 0, .o (.i .i64 wr) 0, .o (.i .i64 off) 0, .o (tl9 Ts) 0] 1)) (.n (.n .e (some (.cells false (((E.take (j + 1)).map fun n => D.i .i64 n).map fun d => Cell.o d j) (j + 1))) .e) none .e)), .o (.i .h), none⟩) (fun j => j ≤ Ts.length) (fun j => Ts.length - j) 0 ?_ ?_ ?_
  · (first | (refine X.le.mk ?_ ?_ (Nat.le_refl _) rfl rfl) | skip) <;> (repeat' first | exact T.le_e _ | refine T.le_some ?_ ?_ ?_ | refine T.le_none ?_ ?_ | rfl)
  · omega
  rintro (_ | j) hj
  · conv => whnf
    repeat' first | ((with_reducible apply WB.tt); conv => whnf) | ((with_reducible apply WB.ff); conv => whnf) | (refine Rn.seq ?_; conv => whnf) | (refine Rn.reg ?_; conv => whnf) | (refine Rn.drw ?_; conv => whnf) | (refine Rn.blk ?_; conv => whnf) | (refine Rn.skip ?_; conv => whnf) | (refine Rn.ret ?_; conv => whnf) | (refine Rn.exit ?_; conv => whnf) | (refine Rn.cond rfl ?_; conv => whnf) | (refine And.intro (InR.i64 (by omega) (by omega)) ?_; conv => whnf) | (refine WIx.intsN (by omega) ?_; conv => whnf) | (refine WIx.rowsN (by omega) ?_; conv => whnf)
    refine WB.dec (fun h => ?_) (fun h => ?_) <;> conv => whnf
    · have hlt : 0 < Ts.length := by omega
      repeat' first | ((with_reducible apply WB.tt); conv => whnf) | ((with_reducible apply WB.ff); conv => whnf) | (refine Rn.seq ?_; conv => whnf) | (refine Rn.reg ?_; conv => whnf) | (refine Rn.drw ?_; conv => whnf) | (refine Rn.blk ?_; conv => whnf) | (refine Rn.skip ?_; conv => whnf) | (refine Rn.ret ?_; conv => whnf) | (refine Rn.exit ?_; conv => whnf) | (refine Rn.cond rfl ?_; conv => whnf) | (refine And.intro (InR.i64 (by omega) (by omega)) ?_; conv => whnf) | (refine WIx.intsN (by omega) ?_; conv => whnf) | (refine WIx.rowsN (by omega) ?_; conv => whnf) | (refine WCall.pure (hg _ (getD_mem hlt)) ?_; conv => whnf)
      refine WSt.app_first (r := [_]) rfl (.inl rfl) rfl rfl rfl rfl ?_; conv => whnf
      repeat' first | ((with_reducible apply WB.tt); conv => whnf) | ((with_reducible apply WB.ff); conv => whnf) | (refine Rn.seq ?_; conv => whnf) | (refine Rn.reg ?_; conv => whnf) | (refine Rn.drw ?_; conv => whnf) | (refine Rn.blk ?_; conv => whnf) | (refine Rn.skip ?_; conv => whnf) | (refine Rn.ret ?_; conv => whnf) | (refine Rn.exit ?_; conv => whnf) | (refine Rn.cond rfl ?_; conv => whnf) | (refine And.intro (InR.i64 (by omega) (by omega)) ?_; conv => whnf) | (refine WIx.intsN (by omega) ?_; conv => whnf) | (refine WIx.rowsN (by omega) ?_; conv => whnf)
      refine Again.to 1 (by omega) (by omega) (Nat.le_of_ble_eq_true rfl) ?_
      (refine Shr.of ?_ ?_ rfl rfl) <;> (repeat' first | exact Rel.e | refine Rel.some ?_ ?_ ?_ | refine Rel.none ?_ ?_) <;> (try first | (show Fz _ _ _ _; first | exact Fz.pu trivial | (refine Fz.i ?_; first | rfl | omega) | (refine Fz.kpt ?_; (focus (show Pos.nat _ < Pos.nat _; simp [Pos.nat]; done))) | (refine Fz.ksl ?_; (focus (show Pos.nat _ < Pos.nat _; simp [Pos.nat]; done))) | (refine Fz.kmp ?_; (focus (show Pos.nat _ < Pos.nat _; simp [Pos.nat]; done))) | (refine Fz.pu ?_; simp [Cell.d, Pu, PuL, PuE, pu_ints, pu_cnts]; done) | (refine Fz.pu ?_; simp only [Cell.d]; assumption)) | (refine RO'.of ?_ (ShC.same ?_); (focus (show Pos.nat _ < Pos.nat _; simp [Pos.nat]; done)); (repeat' first | exact ShC.nl | refine ShC.cn ?_ ?_) <;> first | exact Fz.pu trivial | (refine Fz.i ?_; first | rfl | omega) | (refine Fz.kpt ?_; (focus (show Pos.nat _ < Pos.nat _; simp [Pos.nat]; done))) | (refine Fz.ksl ?_; (focus (show Pos.nat _ < Pos.nat _; simp [Pos.nat]; done))) | (refine Fz.kmp ?_; (focus (show Pos.nat _ < Pos.nat _; simp [Pos.nat]; done))) | (refine Fz.pu ?_; simp [Cell.d, Pu, PuL, PuE, pu_ints, pu_cnts]; done) | (refine Fz.pu ?_; simp only [Cell.d]; assumption)))
      all_goals first | (refine Fz.pu ?_; simp [Cell.d, Pu, PuL, pt]; done) | skip
      refine RO'.of (show Pos.nat _ < Pos.nat _ by simp [Pos.nat]) ?_
      have ht : E.take 1 = [E.getD 0 0] := by rw [take_succ_getD (j := 0) (d := 0) (by omega)]; simp
      show ShC _ _ _ (.cells false (((E.take 1).map fun n => D.i .i64 n).map fun d => Cell.o d 0) 1)
      rw [ht, ← hEg 0 hlt]
      exact ShC.same (ShC.cn (.pu trivial) ShC.nl)
    · repeat' first | ((with_reducible apply WB.tt); conv => whnf) | ((with_reducible apply WB.ff); conv => whnf) | (refine Rn.seq ?_; conv => whnf) | (refine Rn.reg ?_; conv => whnf) | (refine Rn.drw ?_; conv => whnf) | (refine Rn.blk ?_; conv => whnf) | (refine Rn.skip ?_; conv => whnf) | (refine Rn.ret ?_; conv => whnf) | (refine Rn.exit ?_; conv => whnf) | (refine Rn.cond rfl ?_; conv => whnf) | (refine And.intro (InR.i64 (by omega) (by omega)) ?_; conv => whnf) | (refine WIx.intsN (by omega) ?_; conv => whnf) | (refine WIx.rowsN (by omega) ?_; conv => whnf)
      refine Fin.t (.inr rfl) rfl ?_
      rw [show E = [] from List.length_eq_zero_iff.1 (by omega)]
      exact Fz.ns
  · conv => whnf
    repeat' first | ((with_reducible apply WB.tt); conv => whnf) | ((with_reducible apply WB.ff); conv => whnf) | (refine Rn.seq ?_; conv => whnf) | (refine Rn.reg ?_; conv => whnf) | (refine Rn.drw ?_; conv => whnf) | (refine Rn.blk ?_; conv => whnf) | (refine Rn.skip ?_; conv => whnf) | (refine Rn.ret ?_; conv => whnf) | (refine Rn.exit ?_; conv => whnf) | (refine Rn.cond rfl ?_; conv => whnf) | (refine And.intro (InR.i64 (by omega) (by omega)) ?_; conv => whnf) | (refine WIx.intsN (by omega) ?_; conv => whnf) | (refine WIx.rowsN (by omega) ?_; conv => whnf)
    refine WB.dec (fun h => ?_) (fun h => ?_) <;> conv => whnf
    · have hlt : j + 1 < Ts.length := by omega
      repeat' first | ((with_reducible apply WB.tt); conv => whnf) | ((with_reducible apply WB.ff); conv => whnf) | (refine Rn.seq ?_; conv => whnf) | (refine Rn.reg ?_; conv => whnf) | (refine Rn.drw ?_; conv => whnf) | (refine Rn.blk ?_; conv => whnf) | (refine Rn.skip ?_; conv => whnf) | (refine Rn.ret ?_; conv => whnf) | (refine Rn.exit ?_; conv => whnf) | (refine Rn.cond rfl ?_; conv => whnf) | (refine And.intro (InR.i64 (by omega) (by omega)) ?_; conv => whnf) | (refine WIx.intsN (by omega) ?_; conv => whnf) | (refine WIx.rowsN (by omega) ?_; conv => whnf) | (refine WCall.pure (hg _ (getD_mem hlt)) ?_; conv => whnf)
      refine WSt.app_one (ds := (E.take (j + 1)).map fun n => D.i .i64 n) (r := [_]) rfl rfl rfl rfl rfl rfl (by simp; omega) rfl rfl (by omega) rfl ?_; conv => whnf
      repeat' first | ((with_reducible apply WB.tt); conv => whnf) | ((with_reducible apply WB.ff); conv => whnf) | (refine Rn.seq ?_; conv => whnf) | (refine Rn.reg ?_; conv => whnf) | (refine Rn.drw ?_; conv => whnf) | (refine Rn.blk ?_; conv => whnf) | (refine Rn.skip ?_; conv => whnf) | (refine Rn.ret ?_; conv => whnf) | (refine Rn.exit ?_; conv => whnf) | (refine Rn.cond rfl ?_; conv => whnf) | (refine And.intro (InR.i64 (by omega) (by omega)) ?_; conv => whnf) | (refine WIx.intsN (by omega) ?_; conv => whnf) | (refine WIx.rowsN (by omega) ?_; conv => whnf)
      refine Again.to (j + 2) (by omega) (by omega) (Nat.le_of_ble_eq_true rfl) ?_
      (refine Shr.of ?_ ?_ rfl rfl) <;> (repeat' first | exact Rel.e | refine Rel.some ?_ ?_ ?_ | refine Rel.none ?_ ?_) <;> (try first | (show Fz _ _ _ _; first | exact Fz.pu trivial | (refine Fz.i ?_; first | rfl | omega) | (refine Fz.kpt ?_; (focus (show Pos.nat _ < Pos.nat _; simp [Pos.nat]; done))) | (refine Fz.ksl ?_; (focus (show Pos.nat _ < Pos.nat _; simp [Pos.nat]; done))) | (refine Fz.kmp ?_; (focus (show Pos.nat _ < Pos.nat _; simp [Pos.nat]; done))) | (refine Fz.pu ?_; simp [Cell.d, Pu, PuL, PuE, pu_ints, pu_cnts]; done) | (refine Fz.pu ?_; simp only [Cell.d]; assumption)) | (refine RO'.of ?_ (ShC.same ?_); (focus (show Pos.nat _ < Pos.nat _; simp [Pos.nat]; done)); (repeat' first | exact ShC.nl | refine ShC.cn ?_ ?_) <;> first | exact Fz.pu trivial | (refine Fz.i ?_; first | rfl | omega) | (refine Fz.kpt ?_; (focus (show Pos.nat _ < Pos.nat _; simp [Pos.nat]; done))) | (refine Fz.ksl ?_; (focus (show Pos.nat _ < Pos.nat _; simp [Pos.nat]; done))) | (refine Fz.kmp ?_; (focus (show Pos.nat _ < Pos.nat _; simp [Pos.nat]; done))) | (refine Fz.pu ?_; simp [Cell.d, Pu, PuL, PuE, pu_ints, pu_cnts]; done) | (refine Fz.pu ?_; simp only [Cell.d]; assumption)))
      all_goals first | (refine Fz.pu ?_; simp [Cell.d, Pu, PuL, pt]; done) | skip
      refine RO'.of (show Pos.nat _ < Pos.nat _ by simp [Pos.nat]) ?_
      show ShC _ _ (.cells false ((((E.take (j + 1)).map fun n => D.i .i64 n).map fun d => Cell.o d j) ++ [_].map fun d => Cell.o d (j + 1)) (j + 1 + 1)) (.cells false (((E.take (j + 1 + 1)).map fun n => D.i .i64 n).map fun d => Cell.o d (j + 1)) (j + 1 + 1))
      rw [take_succ_getD (j := j + 1) (d := 0) (by omega), List.map_append, ← hEg _ hlt]
      exact ShC.grown (by omega) (PuL_iff.2 fun d hd => by
        rcases List.mem_append.1 hd with hd | hd
        · exact PuL_iff.1 (puL_map_i _) d hd
        · simp at hd; subst hd; exact trivial)
    · repeat' first | ((with_reducible apply WB.tt); conv => whnf) | ((with_reducible apply WB.ff); conv => whnf) | (refine Rn.seq ?_; conv => whnf) | (refine Rn.reg ?_; conv => whnf) | (refine Rn.drw ?_; conv => whnf) | (refine Rn.blk ?_; conv => whnf) | (refine Rn.skip ?_; conv => whnf) | (refine Rn.ret ?_; conv => whnf) | (refine Rn.exit ?_; conv => whnf) | (refine Rn.cond rfl ?_; conv => whnf) | (refine And.intro (InR.i64 (by omega) (by omega)) ?_; conv => whnf) | (refine WIx.intsN (by omega) ?_; conv => whnf) | (refine WIx.rowsN (by omega) ?_; conv => whnf)
      refine Fin.t (.inr rfl) rfl ?_
      refine Frz.whole (cs := ((E.take (j + 1)).map fun n => D.i .i64 n).map fun d => Cell.o d j) (cur := j + 1) rfl (by rw [ints_length]; omega) (ints_one _) (by rw [ints_flatten, List.take_of_length_le (by omega)]) (pu_ints _)
def minL (a : Int) (L : List Int) : Int := L.foldl min a
def maxL (a : Int) (L : List Int) : Int := L.foldl max a
theorem foldl_take_succ {β : Type} (h : β → Int → β) (b : β) {L : List Int} {j : Nat} (hj : j < L.length) : (L.take (j + 1)).foldl h b = h ((L.take j).foldl h b) (L.getD j 0) := by
  rw [take_succ_getD (d := 0) hj, List.foldl_append]; rfl
theorem c_minimum (a : Int) (L : List Int) (hL : L.length ≤ 1000) : PureF Try.prog p84.ix [.i .i64 a, .lst 1 (ints L)] (.i .i64 (minL a L)) := by
  have e1 := ints_length L
  refine PureF.run fn83 (by simp) (by simp [PuL, Pu, pu_ints]) ?_; conv => whnf
  repeat' first | ((with_reducible apply WB.tt); conv => whnf) | ((with_reducible apply WB.ff); conv => whnf) | (refine Rn.seq ?_; conv => whnf) | (refine Rn.reg ?_; conv => whnf) | (refine Rn.drw ?_; conv => whnf) | (refine Rn.blk ?_; conv => whnf) | (refine Rn.skip ?_; conv => whnf) | (refine Rn.ret ?_; conv => whnf) | (refine Rn.exit ?_; conv => whnf) | (refine Rn.cond rfl ?_; conv => whnf) | (refine And.intro (InR.i64 (by omega) (by omega)) ?_; conv => whnf) | (refine WIx.intsN (by omega) ?_; conv => whnf) | (refine WIx.rowsN (by omega) ?_; conv => whnf)
  refine Rn.loop (fun j : Nat => ⟨(.n (.n (.n (.n .e (some (.lst 1 (ints L))) .e) none .e) none (.n (.n .e (some (.i .i64 (j : Int))) .e) none .e)) (some (.i .i64 (minL a (L.take j)))) (.n (.n (.n .e (some (.i .i64 ((ints L).length : Int))) .e) none .e) none .e)), .e, .h, none⟩) (fun j => j ≤ L.length) (fun j => L.length - j) 0 ?_ ?_ ?_
  · (first | (refine X.le.mk ?_ ?_ (Nat.le_refl _) rfl rfl) | skip) <;> (repeat' first | exact T.le_e _ | refine T.le_some ?_ ?_ ?_ | refine T.le_none ?_ ?_ | rfl)
  · omega
  intro j hj
  conv => whnf
  repeat' first | ((with_reducible apply WB.tt); conv => whnf) | ((with_reducible apply WB.ff); conv => whnf) | (refine Rn.seq ?_; conv => whnf) | (refine Rn.reg ?_; conv => whnf) | (refine Rn.drw ?_; conv => whnf) | (refine Rn.blk ?_; conv => whnf) | (refine Rn.skip ?_; conv => whnf) | (refine Rn.ret ?_; conv => whnf) | (refine Rn.exit ?_; conv => whnf) | (refine Rn.cond rfl ?_; conv => whnf) | (refine And.intro (InR.i64 (by omega) (by omega)) ?_; conv => whnf) | (refine WIx.intsN (by omega) ?_; conv => whnf) | (refine WIx.rowsN (by omega) ?_; conv => whnf)
  refine WB.dec (fun h => ?_) (fun h => ?_) <;> conv => whnf
  · have hlt : j < L.length := by omega
    repeat' first | ((with_reducible apply WB.tt); conv => whnf) | ((with_reducible apply WB.ff); conv => whnf) | (refine Rn.seq ?_; conv => whnf) | (refine Rn.reg ?_; conv => whnf) | (refine Rn.drw ?_; conv => whnf) | (refine Rn.blk ?_; conv => whnf) | (refine Rn.skip ?_; conv => whnf) | (refine Rn.ret ?_; conv => whnf) | (refine Rn.exit ?_; conv => whnf) | (refine Rn.cond rfl ?_; conv => whnf) | (refine And.intro (InR.i64 (by omega) (by omega)) ?_; conv => whnf) | (refine WIx.intsN (by omega) ?_; conv => whnf) | (refine WIx.rowsN (by omega) ?_; conv => whnf)
    refine Again.to (j + 1) (by omega) (by omega) (Nat.le_refl _) ?_
    (refine Shr.of ?_ ?_ rfl rfl) <;> (repeat' first | exact Rel.e | refine Rel.some ?_ ?_ ?_ | refine Rel.none ?_ ?_) <;> (try first | (show Fz _ _ _ _; first | exact Fz.pu trivial | (refine Fz.i ?_; first | rfl | omega) | (refine Fz.kpt ?_; (focus (show Pos.nat _ < Pos.nat _; simp [Pos.nat]; done))) | (refine Fz.ksl ?_; (focus (show Pos.nat _ < Pos.nat _; simp [Pos.nat]; done))) | (refine Fz.kmp ?_; (focus (show Pos.nat _ < Pos.nat _; simp [Pos.nat]; done))) | (refine Fz.pu ?_; simp [Cell.d, Pu, PuL, PuE, pu_ints, pu_cnts]; done) | (refine Fz.pu ?_; simp only [Cell.d]; assumption)) | (refine RO'.of ?_ (ShC.same ?_); (focus (show Pos.nat _ < Pos.nat _; simp [Pos.nat]; done)); (repeat' first | exact ShC.nl | refine ShC.cn ?_ ?_) <;> first | exact Fz.pu trivial | (refine Fz.i ?_; first | rfl | omega) | (refine Fz.kpt ?_; (focus (show Pos.nat _ < Pos.nat _; simp [Pos.nat]; done))) | (refine Fz.ksl ?_; (focus (show Pos.nat _ < Pos.nat _; simp [Pos.nat]; done))) | (refine Fz.kmp ?_; (focus (show Pos.nat _ < Pos.nat _; simp [Pos.nat]; done))) | (refine Fz.pu ?_; simp [Cell.d, Pu, PuL, PuE, pu_ints, pu_cnts]; done) | (refine Fz.pu ?_; simp only [Cell.d]; assumption)))
    all_goals (refine Fz.i ?_; exact (foldl_take_succ min a hlt).symm)
  · repeat' first | ((with_reducible apply WB.tt); conv => whnf) | ((with_reducible apply WB.ff); conv => whnf) | (refine Rn.seq ?_; conv => whnf) | (refine Rn.reg ?_; conv => whnf) | (refine Rn.drw ?_; conv => whnf) | (refine Rn.blk ?_; conv => whnf) | (refine Rn.skip ?_; conv => whnf) | (refine Rn.ret ?_; conv => whnf) | (refine Rn.exit ?_; conv => whnf) | (refine Rn.cond rfl ?_; conv => whnf) | (refine And.intro (InR.i64 (by omega) (by omega)) ?_; conv => whnf) | (refine WIx.intsN (by omega) ?_; conv => whnf) | (refine WIx.rowsN (by omega) ?_; conv => whnf)
    exact Fin.i rfl (by rw [List.take_of_length_le (by omega)])
theorem c_maximum (a : Int) (L : List Int) (hL : L.length ≤ 1000) : PureF Try.prog p95.ix [.i .i64 a, .lst 1 (ints L)] (.i .i64 (maxL a L)) := by
  have e1 := ints_length L
  refine PureF.run fn94 (by simp) (by simp [PuL, Pu, pu_ints]) ?_; conv => whnf
  repeat' first | ((with_reducible apply WB.tt); conv => whnf) | ((with_reducible apply WB.ff); conv => whnf) | (refine Rn.seq ?_; conv => whnf) | (refine Rn.reg ?_; conv => whnf) | (refine Rn.drw ?_; conv => whnf) | (refine Rn.blk ?_; conv => whnf) | (refine Rn.skip ?_; conv => whnf) | (refine Rn.ret ?_; conv => whnf) | (refine Rn.exit ?_; conv => whnf) | (refine Rn.cond rfl ?_; conv => whnf) | (refine And.intro (InR.i64 (by omega) (by omega)) ?_; conv => whnf) | (refine WIx.intsN (by omega) ?_; conv => whnf) | (refine WIx.rowsN (by omega) ?_; conv => whnf)
  refine Rn.loop (fun j : Nat => ⟨(.n (.n (.n (.n .e (some (.lst 1 (ints L))) .e) none .e) none (.n (.n .e (some (.i .i64 (j : Int))) .e) none .e)) (some (.i .i64 (maxL a (L.take j)))) (.n (.n (.n .e (some (.i .i64 ((ints L).length : Int))) .e) none .e) none .e)), .e, .h, none⟩) (fun j => j ≤ L.length) (fun j => L.length - j) 0 ?_ ?_ ?_
  · (first | (refine X.le.mk ?_ ?_ (Nat.le_refl _) rfl rfl) | skip) <;> (repeat' first | exact T.le_e _ | refine T.le_some ?_ ?_ ?_ | refine T.le_none ?_ ?_ | rfl)
  · omega
  intro j hj
  conv => whnf
  repeat' first | ((with_reducible apply WB.tt); conv => whnf) | ((with_reducible apply WB.ff); conv => whnf) | (refine Rn.seq ?_; conv => whnf) | (refine Rn.reg ?_; conv => whnf) | (refine Rn.drw ?_; conv => whnf) | (refine Rn.blk ?_; conv => whnf) | (refine Rn.skip ?_; conv => whnf) | (refine Rn.ret ?_; conv => whnf) | (refine Rn.exit ?_; conv => whnf) | (refine Rn.cond rfl ?_; conv => whnf) | (refine And.intro (InR.i64 (by omega) (by omega)) ?_; conv => whnf) | (refine WIx.intsN (by omega) ?_; conv => whnf) | (refine WIx.rowsN (by omega) ?_; conv => whnf)
  refine WB.dec (fun h => ?_) (fun h => ?_) <;> conv => whnf
  · have hlt : j < L.length := by omega
    repeat' first | ((with_reducible apply WB.tt); conv => whnf) | ((with_reducible apply WB.ff); conv => whnf) | (refine Rn.seq ?_; conv => whnf) | (refine Rn.reg ?_; conv => whnf) | (refine Rn.drw ?_; conv => whnf) | (refine Rn.blk ?_; conv => whnf) | (refine Rn.skip ?_; conv => whnf) | (refine Rn.ret ?_; conv => whnf) | (refine Rn.exit ?_; conv => whnf) | (refine Rn.cond rfl ?_; conv => whnf) | (refine And.intro (InR.i64 (by omega) (by omega)) ?_; conv => whnf) | (refine WIx.intsN (by omega) ?_; conv => whnf) | (refine WIx.rowsN (by omega) ?_; conv => whnf)
    refine Again.to (j + 1) (by omega) (by omega) (Nat.le_refl _) ?_
    (refine Shr.of ?_ ?_ rfl rfl) <;> (repeat' first | exact Rel.e | refine Rel.some ?_ ?_ ?_ | refine Rel.none ?_ ?_) <;> (try first | (show Fz _ _ _ _; first | exact Fz.pu trivial | (refine Fz.i ?_; first | rfl | omega) | (refine Fz.kpt ?_; (focus (show Pos.nat _ < Pos.nat _; simp [Pos.nat]; done))) | (refine Fz.ksl ?_; (focus (show Pos.nat _ < Pos.nat _; simp [Pos.nat]; done))) | (refine Fz.kmp ?_; (focus (show Pos.nat _ < Pos.nat _; simp [Pos.nat]; done))) | (refine Fz.pu ?_; simp [Cell.d, Pu, PuL, PuE, pu_ints, pu_cnts]; done) | (refine Fz.pu ?_; simp only [Cell.d]; assumption)) | (refine RO'.of ?_ (ShC.same ?_); (focus (show Pos.nat _ < Pos.nat _; simp [Pos.nat]; done)); (repeat' first | exact ShC.nl | refine ShC.cn ?_ ?_) <;> first | exact Fz.pu trivial | (refine Fz.i ?_; first | rfl | omega) | (refine Fz.kpt ?_; (focus (show Pos.nat _ < Pos.nat _; simp [Pos.nat]; done))) | (refine Fz.ksl ?_; (focus (show Pos.nat _ < Pos.nat _; simp [Pos.nat]; done))) | (refine Fz.kmp ?_; (focus (show Pos.nat _ < Pos.nat _; simp [Pos.nat]; done))) | (refine Fz.pu ?_; simp [Cell.d, Pu, PuL, PuE, pu_ints, pu_cnts]; done) | (refine Fz.pu ?_; simp only [Cell.d]; assumption)))
    all_goals (refine Fz.i ?_; exact (foldl_take_succ max a hlt).symm)
  · repeat' first | ((with_reducible apply WB.tt); conv => whnf) | ((with_reducible apply WB.ff); conv => whnf) | (refine Rn.seq ?_; conv => whnf) | (refine Rn.reg ?_; conv => whnf) | (refine Rn.drw ?_; conv => whnf) | (refine Rn.blk ?_; conv => whnf) | (refine Rn.skip ?_; conv => whnf) | (refine Rn.ret ?_; conv => whnf) | (refine Rn.exit ?_; conv => whnf) | (refine Rn.cond rfl ?_; conv => whnf) | (refine And.intro (InR.i64 (by omega) (by omega)) ?_; conv => whnf) | (refine WIx.intsN (by omega) ?_; conv => whnf) | (refine WIx.rowsN (by omega) ?_; conv => whnf)
    exact Fin.i rfl (by rw [List.take_of_length_le (by omega)])
theorem c_bounds (l : List Int) (cs : List Cnt) (wr off : Int) (Ts : List (Nat → Int)) (h0 : 0 < Ts.length) (hT : Ts.length ≤ 1000) (q : Pos) (f t : Int) (g : (Nat → Int) → Int) (hg : ∀ c ∈ Ts, PureF Try.prog q.ix [.ag [.lst 1 (ints l), .lst 3 (rows cntD cs), .i .i64 wr, .i .i64 off, tl9 Ts], .ag [.i .i64 (c 0), .i .i64 (c 1), .i .i64 (c 2), .i .i64 (c 3), .i .i64 (c 4), .i .i64 (c 5), .i .i64 (c 6), .i .i64 (c 7), .i .i64 (c 8)], .ag [.i .i64 f, .i .i64 t]] (.i .i64 (g c))) :
    PureF Try.prog p75.ix [.ag [.lst 1 (ints l), .lst 3 (rows cntD cs), .i .i64 wr, .i .i64 off, tl9 Ts], .ag [.fn q [] [], .i .i64 f, .i .i64 t]] (.ag [.i .i64 (minL ((Ts.map g).getD 0 0) (Ts.map g)), .i .i64 (maxL ((Ts.map g).getD 0 0) (Ts.map g))]) := by
  have pt := pu_tl9 Ts
  have hl1 : (Ts.map g).length ≤ 1000 := by simpa using hT
  have hl0 : 0 < (Ts.map g).length := by simpa using h0
  refine PureF.run fn74 (by simp) (by simp [PuL, PuE, Pu, pu_ints, pu_cnts, pt]) ?_; conv => whnf
  repeat' first | ((with_reducible apply WB.tt); conv => whnf) | ((with_reducible apply WB.ff); conv => whnf) | (refine Rn.seq ?_; conv => whnf) | (refine Rn.reg ?_; conv => whnf) | (refine Rn.drw ?_; conv => whnf) | (refine Rn.blk ?_; conv => whnf) | (refine Rn.skip ?_; conv => whnf) | (refine Rn.ret ?_; conv => whnf) | (refine Rn.exit ?_; conv => whnf) | (refine Rn.cond rfl ?_; conv => whnf) | (refine And.intro (InR.i64 (by omega) (by omega)) ?_; conv => whnf) | (refine WIx.intsN (by omega) ?_; conv => whnf) | (refine WIx.rowsN (by omega) ?_; conv => whnf) | (refine WCall.pure (c_answers l cs wr off Ts hT q f t g hg) ?_; conv => whnf) | (refine WCall.pure (c_minimum _ _ hl1) ?_; conv => whnf) | (refine WCall.pure (c_maximum _ _ hl1) ?_; conv => whnf)
  exact ⟨.inr rfl, _, rfl, .pu (by simp [Pu, PuL, one])⟩
theorem startE0 {l : List Int} {cs : List Cnt} {wr off f t : Int} (h : startE l cs wr off f t = 0) : faultR l cs wr off = 0 ∧ 0 ≤ f ∧ f ≤ t ∧ t < l.length ∧ truthsF l cs wr off ≠ [] := by
  unfold startE at h
  split at h
  · rename_i hF
    split at h
    · rename_i hi
      split at h
      · cases h
      · rename_i h0
        unfold inB at hi
        rw [Bool.and_eq_true, decide_eq_true_iff, decide_eq_true_iff] at hi
        exact ⟨hF, hi.1.1, hi.1.2, hi.2, h0⟩
    · cases h
  · rename_i hF
    exact absurd h hF
def chG (f t : Int) (c : Nat → Int) : Int := sumP (lst9 c) f.toNat (t + 1 - f).toNat
def chL (l : List Int) (cs : List Cnt) (wr off f t : Int) : List Int := (truthsF l cs wr off).map (chG f t)
def chLo (l : List Int) (cs : List Cnt) (wr off f t : Int) : Int := if startE l cs wr off f t = 0 then minL ((chL l cs wr off f t).getD 0 0) (chL l cs wr off f t) else 0
def chHi (l : List Int) (cs : List Cnt) (wr off f t : Int) : Int := if startE l cs wr off f t = 0 then maxL ((chL l cs wr off f t).getD 0 0) (chL l cs wr off f t) else 0
theorem c_chairsOf (l : List Int) (cs : List Cnt) (wr off f t : Int) (tr : D) (htr : Pu tr) (h0 : 0 ≤ f) (h1 : f ≤ 9) (h2 : t < 9) (c : Nat → Int) (hc : bit2 c) : PureF Try.prog p76.ix [.ag [.lst 1 (ints l), .lst 3 (rows cntD cs), .i .i64 wr, .i .i64 off, tr], .ag [.i .i64 (c 0), .i .i64 (c 1), .i .i64 (c 2), .i .i64 (c 3), .i .i64 (c 4), .i .i64 (c 5), .i .i64 (c 6), .i .i64 (c 7), .i .i64 (c 8)], .ag [.i .i64 f, .i .i64 t]] (.i .i64 (chG f t c)) := 
  c_chairsIn l cs wr off tr htr _ _ _ _ _ _ _ _ _ f.toNat f t (by omega) hc.bits (by omega) h2 (t + 1 - f).toNat (by omega)
theorem c_Chairs (l : List Int) (cs : List Cnt) (wr off f t : Int) : PureF Try.prog p30.ix [.ag [.lst 1 (ints l), .lst 3 (rows cntD cs), .i .i64 wr, .i .i64 off], .i .i64 f, .i .i64 t] (.tp [.ag [.i .i64 (chLo l cs wr off f t), .i .i64 (chHi l cs wr off f t)], .i .i64 (startE l cs wr off f t)]) := by
  have C := c_start l cs wr off f t
  by_cases hE : startE l cs wr off f t = 0
  · obtain ⟨hF, q1, q2, q3, q4⟩ := startE0 hE
    obtain ⟨f1, f2, f3, f4⟩ := fault0 hF
    have tl := truthsF_len l cs wr off f2
    unfold chLo chHi
    rw [show startW l cs wr off f t = [.lst 1 (ints l), .lst 3 (rows cntD cs), .i .i64 wr, .i .i64 off, tl9 (truthsF l cs wr off)] by unfold startW; rw [if_pos hE], hE] at C
    rw [if_pos hE, if_pos hE, hE]
    refine PureF.run fn29 (by simp) (by simp [PuL, PuE, Pu, pu_ints, pu_cnts]) ?_; conv => whnf
    repeat' first | ((with_reducible apply WB.tt); conv => whnf) | ((with_reducible apply WB.ff); conv => whnf) | (refine Rn.seq ?_; conv => whnf) | (refine Rn.reg ?_; conv => whnf) | (refine Rn.drw ?_; conv => whnf) | (refine Rn.blk ?_; conv => whnf) | (refine Rn.skip ?_; conv => whnf) | (refine Rn.ret ?_; conv => whnf) | (refine Rn.exit ?_; conv => whnf) | (refine Rn.cond rfl ?_; conv => whnf) | (refine And.intro (InR.i64 (by omega) (by omega)) ?_; conv => whnf) | (refine WIx.intsN (by omega) ?_; conv => whnf) | (refine WIx.rowsN (by omega) ?_; conv => whnf) | (refine WCall.pure (C) ?_; conv => whnf)
    refine WB.mk (fun h => absurd h (by simp)) (fun _ => ?_); conv => whnf
    repeat' first | ((with_reducible apply WB.tt); conv => whnf) | ((with_reducible apply WB.ff); conv => whnf) | (refine Rn.seq ?_; conv => whnf) | (refine Rn.reg ?_; conv => whnf) | (refine Rn.drw ?_; conv => whnf) | (refine Rn.blk ?_; conv => whnf) | (refine Rn.skip ?_; conv => whnf) | (refine Rn.ret ?_; conv => whnf) | (refine Rn.exit ?_; conv => whnf) | (refine Rn.cond rfl ?_; conv => whnf) | (refine And.intro (InR.i64 (by omega) (by omega)) ?_; conv => whnf) | (refine WIx.intsN (by omega) ?_; conv => whnf) | (refine WIx.rowsN (by omega) ?_; conv => whnf) | (refine WCall.pure (c_bounds l cs wr off (truthsF l cs wr off) (List.length_pos_iff.2 q4) (by omega) p76 f t (chG f t) (fun c hc => c_chairsOf l cs wr off f t _ (pu_tl9 _) q1 (by omega) (by omega) c (truthsF_bit hc))) ?_; conv => whnf)
    exact ⟨.inr rfl, _, rfl, .pu (by simp [Pu, PuL, one])⟩
  · unfold chLo chHi
    rw [show startW l cs wr off f t = [.ns, .ns, .i .i64 0, .i .i64 0, .ns] by unfold startW; rw [if_neg hE]] at C
    rw [if_neg hE, if_neg hE]
    refine PureF.run fn29 (by simp) (by simp [PuL, PuE, Pu, pu_ints, pu_cnts]) ?_; conv => whnf
    repeat' first | ((with_reducible apply WB.tt); conv => whnf) | ((with_reducible apply WB.ff); conv => whnf) | (refine Rn.seq ?_; conv => whnf) | (refine Rn.reg ?_; conv => whnf) | (refine Rn.drw ?_; conv => whnf) | (refine Rn.blk ?_; conv => whnf) | (refine Rn.skip ?_; conv => whnf) | (refine Rn.ret ?_; conv => whnf) | (refine Rn.exit ?_; conv => whnf) | (refine Rn.cond rfl ?_; conv => whnf) | (refine And.intro (InR.i64 (by omega) (by omega)) ?_; conv => whnf) | (refine WIx.intsN (by omega) ?_; conv => whnf) | (refine WIx.rowsN (by omega) ?_; conv => whnf) | (refine WCall.pure (C) ?_; conv => whnf)
    refine WB.mk (fun h => ?_) (fun h => ?_) <;> conv => whnf
    · repeat' first | ((with_reducible apply WB.tt); conv => whnf) | ((with_reducible apply WB.ff); conv => whnf) | (refine Rn.seq ?_; conv => whnf) | (refine Rn.reg ?_; conv => whnf) | (refine Rn.drw ?_; conv => whnf) | (refine Rn.blk ?_; conv => whnf) | (refine Rn.skip ?_; conv => whnf) | (refine Rn.ret ?_; conv => whnf) | (refine Rn.exit ?_; conv => whnf) | (refine Rn.cond rfl ?_; conv => whnf) | (refine And.intro (InR.i64 (by omega) (by omega)) ?_; conv => whnf) | (refine WIx.intsN (by omega) ?_; conv => whnf) | (refine WIx.rowsN (by omega) ?_; conv => whnf)
      exact ⟨.inr rfl, _, rfl, .pu (by simp [Pu, PuL, one])⟩
    · exact absurd (by simpa using h) hE
end Go.Ev

namespace Go.Ev
def okB (a n : Int) : Bool := a == 2 || a == n
def exN (a : Int) (x : List Int) : Nat → List (List Int)
  | 0 => []
  | n + 1 => exN a x n ++ bif okB a (n : Int) then [x ++ [(n : Int)]] else []
def stepL (a : Int) (L : List (List Int)) : List (List Int) := L.flatMap fun x => exN a x 2
def foldA (l : List Int) (L : List (List Int)) : List (List Int) := l.foldl (fun L a => stepL a L) L
def allR (l : List Int) : List (List Int) := foldA l [[]]
theorem stepL_app (a : Int) (A B : List (List Int)) : stepL a (A ++ B) = stepL a A ++ stepL a B := by simp [stepL]
theorem foldA_app : ∀ (l : List Int) (A B : List (List Int)), foldA l (A ++ B) = foldA l A ++ foldA l B
  | [], A, B => rfl
  | a :: l, A, B => by
    show foldA l (stepL a (A ++ B)) = foldA l (stepL a A) ++ foldA l (stepL a B)
    rw [stepL_app, foldA_app l]
theorem foldA_nil : ∀ l : List Int, foldA l [] = []
  | [] => rfl
  | _ :: l => foldA_nil l
theorem exN_len (a : Int) (x : List Int) : ∀ n, (exN a x n).length ≤ n
  | 0 => Nat.le_refl _
  | n + 1 => by
    have := exN_len a x n
    unfold exN
    rw [List.length_append]
    cases okB a (n : Int) <;> simp <;> omega
theorem stepL_len (a : Int) (L : List (List Int)) : (stepL a L).length ≤ 2 * L.length := by
  induction L with
  | nil => simp [stepL]
  | cons x L ih =>
    have h := exN_len a x 2
    unfold stepL at *
    rw [List.flatMap_cons, List.length_append, List.length_cons]
    omega
theorem foldA_len : ∀ (l : List Int) (L : List (List Int)), (foldA l L).length ≤ 2 ^ l.length * L.length
  | [], L => by simp [foldA]
  | a :: l, L => by
    have h1 := foldA_len l (stepL a L)
    have h2 := stepL_len a L
    show (foldA l (stepL a L)).length ≤ _
    rw [List.length_cons, Nat.pow_succ]
    calc (foldA l (stepL a L)).length ≤ 2 ^ l.length * (stepL a L).length := h1
      _ ≤ 2 ^ l.length * (2 * L.length) := Nat.mul_le_mul_left _ h2
      _ = 2 ^ l.length * 2 * L.length := by rw [Nat.mul_assoc]
theorem take_upd (c : Nat → Int) {p : Nat} (hp : p < 9) (k : Int) : (lst9 (upd c p k)).take (p + 1) = (lst9 c).take p ++ [k] := by
  rcases nine hp with rfl | rfl | rfl | rfl | rfl | rfl | rfl | rfl | rfl <;> rfl
theorem exts_map (l : List Int) (hl : l.length ≤ 9) : ∀ m p c, p + m = l.length → (extsF l m p c).map (fun c => (lst9 c).take l.length) = foldA (l.drop p) [(lst9 c).take p]
  | 0, p, c, h => by
    rw [List.drop_of_length_le (by omega), show l.length = p by omega]
    rfl
  | m + 1, p, c, h => by
    have ih := fun k => exts_map l hl m (p + 1) (upd c p k) (by omega)
    have hp : p < l.length := by omega
    rw [show l.drop p = l.getD p 0 :: l.drop (p + 1) from by
      rw [List.drop_eq_getElem_cons hp]; simp [List.getD, hp]]
    show _ = foldA (l.drop (p + 1)) (stepL (l.getD p 0) [(lst9 c).take p])
    have e : stepL (l.getD p 0) [(lst9 c).take p] = (bif okP l p 0 then [(lst9 c).take p ++ [0]] else []) ++ (bif okP l p 1 then [(lst9 c).take p ++ [1]] else []) := by
      simp [stepL, exN, okB, okP]
    rw [e, foldA_app]
    unfold extsF
    rw [List.map_append]
    congr 1
    · cases okP l p 0 with
      | true => simp only [cond_true]; rw [ih, take_upd c (by omega)]
      | false => simp [foldA_nil]
    · cases okP l p 1 with
      | true => simp only [cond_true]; rw [ih, take_upd c (by omega)]
      | false => simp [foldA_nil]
theorem allR_exts (l : List Int) (hl : l.length ≤ 9) : allR l = (extsF l l.length 0 zero9).map (fun c => (lst9 c).take l.length) := by
  rw [exts_map l hl l.length 0 zero9 (by omega)]
  rfl
end Go.Ev

namespace Go.Ev
open Go.RowKit (Below Grown)

structure ShrB (B : Pos → Prop) (z z' : X) : Prop where
  sl : ∀ s d', z'.sl.get s = some d' → ∃ d, z.sl.get s = some d ∧ Fz B z.ob d d'
  ob : ∀ id c', z'.ob.get id = some c' → B id ∧ ∃ c, z.ob.get id = some c ∧ ShC B z.ob c c'
  l : z.lg = none
  l' : z'.lg = none
section
variable {P : Program} {nt : Nat}
structure AgainB {σ : Type} (S : σ → X) (I : σ → Prop) (μ : σ → Nat) (s : σ) (z : X) : Prop where
  ok : ∃ s' B, μ s' < μ s ∧ I s' ∧ (S s).nx.nat ≤ (S s').nx.nat ∧ (∀ id : Pos, id.nat < (S s).nx.nat → B id) ∧ (∀ id : Pos, B id → id.nat < (S s').nx.nat) ∧ ShrB B z (S s')
theorem AgainB.to {σ : Type} {S : σ → X} {I : σ → Prop} {μ : σ → Nat} {s : σ} {z : X} (s' : σ) (B : Pos → Prop) (h : μ s' < μ s) (i : I s') (n : (S s).nx.nat ≤ (S s').nx.nat) (b1 : ∀ id : Pos, id.nat < (S s).nx.nat → B id) (b2 : ∀ id : Pos, B id → id.nat < (S s').nx.nat) (l : ShrB B z (S s')) : AgainB S I μ s z := ⟨s', B, h, i, n, b1, b2, l⟩
theorem Shr.toB {z z' : X} (h : Shr z z') : ShrB (fun id => id.nat < z'.nx.nat) z z' := ⟨h.sl, h.ob, h.l, h.l'⟩
theorem AgainB.sh {σ : Type} {S : σ → X} {I : σ → Prop} {μ : σ → Nat} {s : σ} {z : X} (s' : σ) (h : μ s' < μ s) (i : I s') (n : (S s).nx.nat ≤ (S s').nx.nat) (l : Shr z (S s')) : AgainB S I μ s z :=
  ⟨s', _, h, i, n, fun _ h => Nat.lt_of_lt_of_le h n, fun _ h => h, l.toB⟩
end
end Go.Ev

namespace Go.Ev
theorem WB.decT {p : Prop} [Decidable p] {F : Bool → Prop} (h : p) (k : F true) : WB (decide p) F := WB.of (by rw [decide_eq_true h]; exact k)
theorem WB.decF {p : Prop} [Decidable p] {F : Bool → Prop} (h : ¬ p) (k : F false) : WB (decide p) F := WB.of (by rw [decide_eq_false h]; exact k)
theorem WB.ndT {p : Prop} [Decidable p] {F : Bool → Prop} (h : p) (k : F false) : WB (!decide p) F := WB.of (by rw [decide_eq_true h]; exact k)
theorem WB.ndF {p : Prop} [Decidable p] {F : Bool → Prop} (h : ¬ p) (k : F true) : WB (!decide p) F := WB.of (by rw [decide_eq_false h]; exact k)
theorem WB.nt {F : Bool → Prop} (k : F false) : WB (!true) F := WB.of k
theorem WB.nf {F : Bool → Prop} (k : F true) : WB (!false) F := WB.of k
theorem WB.at' {b c : Bool} {F : Bool → Prop} (h : b = c) (k : F c) : WB b F := WB.of (by rw [h]; exact k)
end Go.Ev
