import Derived.Test.YtjgbfnciedkafaaEvUFn
import Derived.Test.YtjgbfnciedkafaaEvUJb
set_option linter.all false
namespace Go.Ev
open Go.Proofs
set_option maxRecDepth 100000
structure Mns (σ : Type) where
  o : Nat → σ → Option C
def Mns.base {σ : Type} (S : Mns σ) (s : σ) : T C := trL (S.o 1 s) (S.o 2 s) (S.o 3 s) (S.o 4 s) (S.o 5 s) (S.o 6 s) (S.o 7 s) (S.o 8 s) (S.o 9 s) (S.o 10 s) (S.o 11 s) (S.o 12 s) (S.o 13 s) (S.o 14 s) (S.o 15 s) none none none none none
structure MnsOk {σ : Type} (S : Mns σ) (y : Pos) (I : List Mo → σ → Prop) (R : σ → Mo → σ → Bool → Prop) (W : List Mo) : Prop where
  yl : y.nat < 16
  kp : ∀ s, KpO 16 (S.base s)
  inv : ∀ h s a s', h ++ [a] <+: W → I h s → R s a s' true → I (h ++ [a]) s'
  rnd : ∀ h s, I h s → ∀ a, h ++ [a] <+: W → ∃ g ob', (∃ s', R s a s' g ∧ ob' = S.base s') ∧ RndOk Try.prog y [.ag (moD a)] (S.base s) nb0 none (.b g) ob' nb0 none
def nxS (row mrow lrow : List D) : T D := (.n (.n (.n (.n (.n .e (some (.fn p135 [] [.pl row 0, .pl lrow 0])) .e) none .e) (some (.pt nb0 0 0)) .e) (some (.pl row 0)) .e) none (.n .e (some (.pl mrow 0)) .e))
noncomputable def nxL {σ : Type} (S : Mns σ) (y : Pos) (row mrow lrow : List D) : Lns (σ × Bool) where
  o := fun i t => match i with
    | 16 => some (.cells false [.o (.yl y) 0] 1)
    | 17 => some (.lp (nxS row mrow lrow) [p17] 31 (rfA (bodyC Try.f155) 0) (rfB (bodyC Try.f155) 0) (bif t.2 then .done else .ready) (bif t.2 then some .ret else none))
    | i => S.o i t.1
def nxR {σ : Type} (R : σ → Mo → σ → Bool → Prop) (coin : Int) (m : Mo) (t : σ × Bool) (a : Ln) (t' : σ × Bool) (g : Bool) : Prop :=
  ((aftM coin m a).2 = false ∧ t' = t ∧ g = true) ∨ ((aftM coin m a).2 = true ∧ R t.1 (aftM coin m a).1 t'.1 g ∧ t'.2 = !g)
theorem nxS_kp {row mrow lrow : List D} (h : PuL row) (h' : PuL mrow) (h2 : PuL lrow) {q : Nat} (hq : 17 ≤ q) : ∀ s d, (nxS row mrow lrow).get s = some d → Kp q d := by
  show TAll (fun _ d => Kp q d) (nxS row mrow lrow)
  unfold nxS
  repeat' first | exact TAll.e | refine TAll.some ?_ ?_ ?_ | refine TAll.none ?_ ?_
  all_goals simp [Kp, KpL, Pu, PuL, h, h', h2, nb0, Pos.nat]
  all_goals omega
theorem nxB_kp {σ : Type} {S : Mns σ} {y : Pos} {row mrow lrow : List D} (hy : y.nat < 16) (hk : ∀ s, KpO 16 (S.base s)) (h : PuL row) (h' : PuL mrow) (h2 : PuL lrow) (t : σ × Bool) : KpO 18 ((nxL S y row mrow lrow).base t) := by
  intro id c hc
  rcases trL_of hc with rfl | rfl | ⟨h1, h3⟩
  · have hc : some (.cells false [.o (.yl y) 0] 1) = some c := hc
    cases hc
    refine ⟨by simp [nb0, Pos.nat], KpL.all ?_⟩
    simp [KpL, Kp, Cell.d]
    omega
  · have hc : some (.lp (nxS row mrow lrow) [p17] 31 (rfA (bodyC Try.f155) 0) (rfB (bodyC Try.f155) 0) (bif t.2 then .done else .ready) (bif t.2 then some .ret else none)) = some c := hc
    cases hc
    exact ⟨by simp [nb1, Pos.nat], nxS_kp h h' h2 (by omega)⟩
  · have : (S.base t.1).get id = some c := h3
    obtain ⟨q1, q2⟩ := hk t.1 id c this
    exact ⟨by omega, q2.up (by omega)⟩
end Go.Ev
namespace Go.Ev
open Go.Proofs
set_option maxRecDepth 100000
theorem mo_bds {B : Bk} (V : VB B) (T : List Ln) (i : Nat) (hi : i ≤ 8) : (0 ≤ (moR B.box B.coin T i).n ∧ (moR B.box B.coin T i).n ≤ 50) ∧ (-100000 ≤ (moR B.box B.coin T i).box ∧ (moR B.box B.coin T i).box ≤ 100000) ∧ (0 ≤ (moR B.box B.coin T i).mix ∧ (moR B.box B.coin T i).mix ≤ 50) ∧ ∀ q, 0 ≤ (moR B.box B.coin T i).h q ∧ (moR B.box B.coin T i).h q ≤ 50 := by
  have hm1 := monR_bd (T := T) V.box V.coin i
  have hm2 := mixR_bd (T := T) i
  refine ⟨⟨show 0 ≤ (i : Int) by omega, show (i : Int) ≤ 50 by omega⟩, ⟨show -100000 ≤ monR B.box B.coin T i by omega, show monR B.box B.coin T i ≤ 100000 by omega⟩, ⟨show 0 ≤ mixR T i by omega, show mixR T i ≤ 50 by omega⟩, fun q => ?_⟩
  have g1 := cOut_bd T (q : Int) i
  have g2 := tOut_bd T ((q - 4 : Nat) : Int) i
  show 0 ≤ (if q < 4 then cOut T (q : Int) i + 1 else tOut T ((q - 4 : Nat) : Int) i + 1) ∧ (if q < 4 then cOut T (q : Int) i + 1 else tOut T ((q - 4 : Nat) : Int) i + 1) ≤ 50
  split <;> omega
theorem aft_yes {B : Bk} {T : List Ln} {a : Ln} (hk : a.k = 1 ∨ a.k = 2) (hc : 0 ≤ a.c ∧ a.c ≤ 3) (ht : 0 ≤ a.t ∧ a.t ≤ 3) (hp : pos1 (T ++ [a]) T.length = true) : aftM B.coin (moR B.box B.coin T T.length) a = (moR B.box B.coin (T ++ [a]) (T ++ [a]).length, true) := by
  have h := aft_pos (box := B.box) (coin := B.coin) (T := T ++ [a]) (i := T.length) (by rw [app_last]; exact hk) (by rw [app_last]; exact hc) (by rw [app_last]; exact ht) hp
  rw [app_last, moR_same (SameTo.app T a)] at h
  rw [h, List.length_append, List.length_singleton]
theorem aft_not {B : Bk} {T : List Ln} {a : Ln} (hk : a.k = 1 ∨ a.k = 2) (hc : 0 ≤ a.c ∧ a.c ≤ 3) (ht : 0 ≤ a.t ∧ a.t ≤ 3) (hp : pos1 (T ++ [a]) T.length = false) : (aftM B.coin (moR B.box B.coin T T.length) a).2 = false := by
  have h := aft_no (box := B.box) (coin := B.coin) (T := T ++ [a]) (i := T.length) (by rw [app_last]; exact hk) (by rw [app_last]; exact hc) (by rw [app_last]; exact ht) hp
  rw [app_last, moR_same (SameTo.app T a)] at h
  exact h
def mo1 (B : Bk) (T : List Ln) : Mo := moR B.box B.coin T T.length
def nxH (B : Bk) (Q h : List Ln) : List Mo := ((h.filter fun a => pos1 (Q ++ [a]) Q.length).map fun a => Q ++ [a]).map (mo1 B)
theorem nxH_pre {B : Bk} {Q h : List Ln} (hp : h <+: rdsL B.n (B.ls.getD Q.length default)) : nxH B Q h <+: (stp B Q).map (mo1 B) := by
  obtain ⟨r, hr⟩ := hp
  unfold nxH stp
  rw [← hr, List.filter_append, List.map_append, List.map_append]
  exact List.prefix_append _ _
theorem nxH_yes {B : Bk} {Q h : List Ln} {a : Ln} (hp : pos1 (Q ++ [a]) Q.length = true) : nxH B Q (h ++ [a]) = nxH B Q h ++ [mo1 B (Q ++ [a])] := by
  unfold nxH
  rw [List.filter_append, List.map_append, List.map_append, List.filter_cons_of_pos (by rw [hp])]
  rfl
theorem nxH_no {B : Bk} {Q h : List Ln} {a : Ln} (hp : pos1 (Q ++ [a]) Q.length = false) : nxH B Q (h ++ [a]) = nxH B Q h := by
  unfold nxH
  rw [List.filter_append, List.filter_cons_of_neg (by rw [hp]; simp)]
  simp
theorem pre_rd {B : Bk} {Q h : List Ln} {a : Ln} (hp : h ++ [a] <+: rdsL B.n (B.ls.getD Q.length default)) : rdB B.n (B.ls.getD Q.length default) a = true := mem_rdsL.1 (hp.subset (by simp))
section
variable {σ : Type} {S : Mns σ} {y : Pos} {I : List Mo → σ → Prop} {R : σ → Mo → σ → Bool → Prop} {B : Bk} {T : List Ln}
theorem nx_ok (V : VB B) (hl : T.length < B.ls.length) (H : MnsOk S y I R ((stp B T).map (mo1 B))) :
    LnsOk (nxL S y (wk6 B.n B.coin B.box B.ls B.cs) (moD (mo1 B T)) (ln3 (B.ls.getD T.length default))) nb1 (fun h t => I (nxH B T h) t.1 ∧ t.2 = false) (nxR R B.coin (mo1 B T)) B.n (B.ls.getD T.length default) := by
  have hrow := pu_wk6 B.n B.coin B.box B.ls B.cs
  have hm := pu_moD (mo1 B T)
  have hln : PuL (ln3 (B.ls.getD T.length default)) := by simp [ln3, PuL, Pu]
  have kpB := nxB_kp (row := wk6 B.n B.coin B.box B.ls B.cs) (mrow := moD (mo1 B T)) (lrow := ln3 (B.ls.getD T.length default)) H.yl H.kp hrow hm hln
  refine ⟨by simp [nb1, Pos.nat], kpB, ?_, ?_⟩
  · rintro h ⟨s, f⟩ a ⟨s', f'⟩ hp ⟨h1, h2⟩ hR
    have ha := pre_rd hp
    obtain ⟨hk, hc, ht⟩ := V.rd hl ha
    cases hpos : pos1 (T ++ [a]) T.length with
    | true =>
      have e2 : aftM B.coin (mo1 B T) a = (mo1 B (T ++ [a]), true) := aft_yes (B := B) hk hc ht hpos
      rcases hR with ⟨q1, _⟩ | ⟨_, q2, q3⟩
      · rw [e2] at q1; cases q1
      · rw [e2] at q2
        have hp2 := nxH_pre hp
        rw [nxH_yes hpos] at hp2
        refine ⟨?_, q3⟩
        rw [nxH_yes hpos]
        exact H.inv _ s _ s' hp2 h1 q2
    | false =>
      have e2 : (aftM B.coin (mo1 B T) a).2 = false := aft_not (B := B) hk hc ht hpos
      rcases hR with ⟨_, q2, _⟩ | ⟨q1, _⟩
      · rw [q2, nxH_no hpos]; exact ⟨h1, h2⟩
      · rw [e2] at q1; cases q1
  · rintro h ⟨s, f⟩ ⟨h1, h2⟩ a hpre sl d K k
    have ha := pre_rd hpre
    have h2 : f = false := h2
    subst h2
    have h1 : I (nxH B T h) s := h1
    obtain ⟨hk, hc, ht⟩ := V.rd hl ha
    have hlen := V.len
    obtain ⟨m1, m2, m3, m4⟩ := mo_bds V T T.length (by omega)
    have cA := j_after B.n B.coin B.box B.ls B.cs (mo1 B T) a V.coin m1 m2 m3 m4 hc ht
    refine WRnd.run (id := nb1) rfl rc155a0_ok rc155b0_ok ⟨_, rfl, ?_⟩
    unfold Lns.ob trL nxL nxS
    conv => whnf
    repeat' first | ((first | with_reducible (first | apply Qt | apply Qu) | refine Qa rfl ?_ | refine Qk rfl ?_ | refine Qb ?_ | refine Qc ?_ | refine Qi ?_ | refine Qj ?_) <;> conv => whnf)
    refine ⟨rfl, rfl, _, _, _, _, _, _, rfl, ?_⟩
    conv => whnf
    cases hp : pos1 (T ++ [a]) T.length with
    | false =>
      have e2 := aft_not (B := B) hk hc ht hp
      have e2 : (aftM B.coin (mo1 B T) a).2 = false := e2
      rw [e2] at cA
      repeat' first | ((first | with_reducible (first | apply Qt | apply Qu) | refine Qa rfl ?_ | refine Qk rfl ?_ | refine Qb ?_ | refine Qc ?_ | refine Qi ?_ | refine Qj ?_ | refine Qf (cA) ?_ | with_reducible (first | refine Qm ?_ | refine Qn ?_ | refine Qo ?_ | refine Qp ?_ | refine WB.nt ?_ | refine WB.nf ?_ | refine WB.dec (fun h => ?_) (fun h => ?_) | refine WB.ndec (fun h => ?_) (fun h => ?_)) | refine WB.mk (fun h => ?_) (fun h => ?_)) <;> conv => whnf)
      refine ⟨_, _, _, _, _, _, _, (nxL S y (wk6 B.n B.coin B.box B.ls B.cs) (moD (mo1 B T)) (ln3 (B.ls.getD T.length default))).ob B.n (B.ls.getD T.length default) (s, false), nb5, rfl, rfl, Shr.kp ?_ (ob_kp kpB _), Nat.le_refl _, k (s, false) true (.inl ⟨e2, rfl, rfl⟩)⟩
      unfold Lns.ob trL nxL nxS
      repeat' first | exact Go.Ev.T.le_refl _ | exact Go.Ev.T.le_e _ | refine Go.Ev.T.le_some ?_ rfl ?_ | refine Go.Ev.T.le_same ?_ ?_ | refine Go.Ev.T.le_none ?_ ?_
    | true =>
      have e2 := aft_yes (B := B) hk hc ht hp
      have e2 : aftM B.coin (mo1 B T) a = (mo1 B (T ++ [a]), true) := e2
      have hNa := nxH_pre hpre
      rw [nxH_yes hp] at hNa
      obtain ⟨g, _, ⟨s', hRs, rfl⟩, HR⟩ := H.rnd _ s h1 _ hNa
      have hR' : ∀ f', f' = !g → nxR R B.coin (mo1 B T) (s, false) a (s', f') g := fun f' hf => .inr ⟨by rw [e2], by rw [e2]; exact hRs, hf⟩
      rw [e2] at cA
      repeat' first | ((first | with_reducible (first | apply Qt | apply Qu) | refine Qa rfl ?_ | refine Qk rfl ?_ | refine Qb ?_ | refine Qc ?_ | refine Qi ?_ | refine Qj ?_ | refine Qf (cA) ?_ | with_reducible (first | refine Qm ?_ | refine Qn ?_ | refine Qo ?_ | refine Qp ?_ | refine WB.nt ?_ | refine WB.nf ?_ | refine WB.dec (fun h => ?_) (fun h => ?_) | refine WB.ndec (fun h => ?_) (fun h => ?_)) | refine WB.mk (fun h => ?_) (fun h => ?_)) <;> conv => whnf)
      refine WRnd.fr (obR' := trR (S.o 1 s') (S.o 2 s') (S.o 3 s') (S.o 4 s') (S.o 5 s') (S.o 6 s') (S.o 7 s') (S.o 8 s') (S.o 9 s') (S.o 10 s') (S.o 11 s') (S.o 12 s') (S.o 13 s') (S.o 14 s') (S.o 15 s') (some (.cells false [.o (.yl y) 0] 1)) (some (.lp (nxS (wk6 B.n B.coin B.box B.ls B.cs) (moD (mo1 B T)) (ln3 (B.ls.getD T.length default))) [p17] 31 (rfA (bodyC Try.f155) 0) (rfB (bodyC Try.f155) 0) .busy none)) (some (.cells false [.o (.i .i64 (kLo (B.ls.getD T.length default))) 0, .o (.i .i64 (kHi (B.ls.getD T.length default))) 0] 1)) (some (.cells false [.o (.i .i64 (cLo (B.ls.getD T.length default))) 0, .o (.i .i64 (cHi B.n (B.ls.getD T.length default))) 0] 1)) (some (.cells false [.o (.i .i64 (tLo (B.ls.getD T.length default))) 0, .o (.i .i64 (tHi B.n (B.ls.getD T.length default))) 0] 1)) (some (.cells false ([D.i .i64 a.k, .i .i64 a.c, .i .i64 a.t].map fun d => Cell.o d 0) 1)) (some (.cells false ((moD (mo1 B (T ++ [a]))).map fun d => Cell.o d 0) 1))) HR H.yl trR_le (H.kp s) (by simp only [KpL, and_true]; exact Kp.pu _ (pu_moD _)) trR_beside (by simp [nb0, Pos.nat]) (LgLe.refl _) (fun _ _ => trivial) ?_; conv => whnf
      cases g with
      | true =>
        repeat' first | ((first | with_reducible (first | apply Qt | apply Qu) | refine Qa rfl ?_ | refine Qk rfl ?_ | refine Qb ?_ | refine Qc ?_ | refine Qi ?_ | refine Qj ?_ | with_reducible (first | refine Qm ?_ | refine Qn ?_ | refine Qo ?_ | refine Qp ?_ | refine WB.nt ?_ | refine WB.nf ?_ | refine WB.dec (fun h => ?_) (fun h => ?_) | refine WB.ndec (fun h => ?_) (fun h => ?_)) | refine WB.mk (fun h => ?_) (fun h => ?_)) <;> conv => whnf)
        refine ⟨_, _, _, _, _, _, _, (nxL S y (wk6 B.n B.coin B.box B.ls B.cs) (moD (mo1 B T)) (ln3 (B.ls.getD T.length default))).ob B.n (B.ls.getD T.length default) (s', false), nb5, rfl, rfl, Shr.kp ?_ (ob_kp kpB _), Nat.le_refl _, k (s', false) true (hR' _ rfl)⟩
        unfold Lns.ob trL nxL nxS
        repeat' first | exact Go.Ev.T.le_refl _ | exact Go.Ev.T.le_e _ | refine Go.Ev.T.le_some ?_ rfl ?_ | refine Go.Ev.T.le_same ?_ ?_ | refine Go.Ev.T.le_none ?_ ?_
      | false =>
        repeat' first | ((first | with_reducible (first | apply Qt | apply Qu) | refine Qa rfl ?_ | refine Qk rfl ?_ | refine Qb ?_ | refine Qc ?_ | refine Qi ?_ | refine Qj ?_ | with_reducible (first | refine Qm ?_ | refine Qn ?_ | refine Qo ?_ | refine Qp ?_ | refine WB.nt ?_ | refine WB.nf ?_ | refine WB.dec (fun h => ?_) (fun h => ?_) | refine WB.ndec (fun h => ?_) (fun h => ?_)) | refine WB.mk (fun h => ?_) (fun h => ?_)) <;> conv => whnf)
        refine ⟨_, _, _, _, _, _, _, (nxL S y (wk6 B.n B.coin B.box B.ls B.cs) (moD (mo1 B T)) (ln3 (B.ls.getD T.length default))).ob B.n (B.ls.getD T.length default) (s', true), nb5, rfl, rfl, Shr.kp ?_ (ob_kp kpB _), Nat.le_refl _, k (s', true) false (hR' _ rfl)⟩
        unfold Lns.ob trL nxL nxS
        repeat' first | exact Go.Ev.T.le_refl _ | exact Go.Ev.T.le_e _ | refine Go.Ev.T.le_some ?_ rfl ?_ | refine Go.Ev.T.le_same ?_ ?_ | refine Go.Ev.T.le_none ?_ ?_
end
end Go.Ev
namespace Go.Ev
open Go.Proofs
set_option maxRecDepth 100000
theorem nx_fld {σ : Type} {R : σ → Mo → σ → Bool → Prop} {B : Bk} (V : VB B) {Q : List Ln} (hl : Q.length < B.ls.length) : ∀ (L : List Ln) {s s' : σ} {f' g : Bool}, (∀ a ∈ L, rdB B.n (B.ls.getD Q.length default) a = true) → Fld (nxR R B.coin (mo1 B Q)) L (s, false) (s', f') g → Fld R (((L.filter fun a => pos1 (Q ++ [a]) Q.length).map fun a => Q ++ [a]).map (mo1 B)) s s' g ∧ f' = !g
  | [], s, s', f', g, _, h => by
    cases h
    exact ⟨.nil, rfl⟩
  | a :: L, s, s', f', g, hL, h => by
    obtain ⟨hk, hc, ht⟩ := V.rd hl (hL a (by simp))
    have ih := fun {s s' : σ} {f' g : Bool} (h : Fld (nxR R B.coin (mo1 B Q)) L (s, false) (s', f') g) => nx_fld V hl L (fun b hb => hL b (by simp [hb])) h
    cases hp : pos1 (Q ++ [a]) Q.length with
    | false =>
      have e2 : (aftM B.coin (mo1 B Q) a).2 = false := aft_not (B := B) hk hc ht hp
      rw [List.filter_cons_of_neg (by rw [hp]; simp)]
      cases h with
      | stop h =>
        rcases h with ⟨_, _, q3⟩ | ⟨q1, _⟩
        · cases q3
        · rw [e2] at q1; cases q1
      | go h k =>
        rcases h with ⟨_, q2, _⟩ | ⟨q1, _⟩
        · subst q2
          exact ih k
        · rw [e2] at q1; cases q1
    | true =>
      have e2 : aftM B.coin (mo1 B Q) a = (mo1 B (Q ++ [a]), true) := aft_yes (B := B) hk hc ht hp
      rw [List.filter_cons_of_pos (by rw [hp]), List.map_cons, List.map_cons]
      cases h with
      | stop h =>
        rcases h with ⟨q1, _⟩ | ⟨_, q2, q3⟩
        · rw [e2] at q1; cases q1
        · rw [e2] at q2
          exact ⟨.stop q2, q3⟩
      | go h k =>
        rename_i t1
        rcases h with ⟨q1, _⟩ | ⟨_, q2, q3⟩
        · rw [e2] at q1; cases q1
        · rw [e2] at q2
          obtain ⟨s1, f1⟩ := t1
          have q3 : f1 = false := q3
          subst q3
          obtain ⟨k1, k2⟩ := ih k
          exact ⟨.go q2 k1, k2⟩
theorem j_itN {σ : Type} (S : Mns σ) (y : Pos) (I : List Mo → σ → Prop) (R : σ → Mo → σ → Bool → Prop) {B : Bk} (V : VB B) {Q : List Ln} (hl : Q.length < B.ls.length) (H : MnsOk S y I R ((stp B Q).map (mo1 B))) (s0 : σ) (i0 : I [] s0) :
    ∃ v ob', (∃ s' g, Fld R ((stp B Q).map (mo1 B)) s0 s' g ∧ v = .tp [] ∧ ob' = S.base s') ∧ CallOk Try.prog p156.ix [.yl y, .pl (wk6 B.n B.coin B.box B.ls B.cs) 0, .pl (moD (mo1 B Q)) 0] (S.base s0) nb0 none v ob' nb0 none := by
  have hlen := V.len
  have hmn : (mo1 B Q).n = (Q.length : Int) := rfl
  have e1 := rows_length lnD B.ls
  obtain ⟨hk, hc, ht⟩ := V.ln hl
  refine CallOk.runE fn155 (by simp) (Nat.le_refl _) ?_
  unfold Mns.base trL
  conv => whnf
  repeat' first | ((first | with_reducible (first | apply Qt | apply Qu) | refine Qa rfl ?_ | refine Qk rfl ?_ | refine Qb ?_ | refine Qc ?_ | refine Qi ?_ | refine Qj ?_ | refine Qf (j_readings B.n B.coin B.box B.ls B.cs (B.ls.getD Q.length default)) ?_) <;> conv => whnf)
  refine Rn.le (a := ⟨nxS (wk6 B.n B.coin B.box B.ls B.cs) (moD (mo1 B Q)) (ln3 (B.ls.getD Q.length default)), trL (S.o 1 s0) (S.o 2 s0) (S.o 3 s0) (S.o 4 s0) (S.o 5 s0) (S.o 6 s0) (S.o 7 s0) (S.o 8 s0) (S.o 9 s0) (S.o 10 s0) (S.o 11 s0) (S.o 12 s0) (S.o 13 s0) (S.o 14 s0) (S.o 15 s0) (some (.cells false [.o (.yl y) 0] 1)) none none none none, nb1, none⟩) ?_ ?_
  · obtain ⟨_, _, ⟨⟨s', f'⟩, g, F, rfl, rfl⟩, C⟩ := j_itL (nxL S y (wk6 B.n B.coin B.box B.ls B.cs) (moD (mo1 B Q)) (ln3 (B.ls.getD Q.length default))) nb1 _ _ B.n B.coin B.box B.ls B.cs V.n (B.ls.getD Q.length default) hk hc ht (nx_ok V hl H) (s0, false) ⟨i0, rfl⟩
    obtain ⟨F', hf⟩ := nx_fld V hl _ (fun a ha => mem_rdsL.1 ha) F
    cases g with
    | true =>
      have hf : f' = false := hf
      subst hf
      refine Rn.rf rfl rfl C rfl (by simp) ?_; conv => whnf
      repeat' first | ((first | with_reducible (first | apply Qt | apply Qu) | refine Qa rfl ?_ | refine Qk rfl ?_ | refine Qb ?_ | refine Qc ?_ | refine Qi ?_ | refine Qj ?_) <;> conv => whnf)
      refine ⟨_, _, ⟨s', true, F', rfl, rfl⟩, ⟨.inl rfl, ⟨_, rfl, .pu trivial⟩, Shr.kp ?_ (H.kp s')⟩⟩
      show Go.Ev.T.le (trL (S.o 1 s') (S.o 2 s') (S.o 3 s') (S.o 4 s') (S.o 5 s') (S.o 6 s') (S.o 7 s') (S.o 8 s') (S.o 9 s') (S.o 10 s') (S.o 11 s') (S.o 12 s') (S.o 13 s') (S.o 14 s') (S.o 15 s') none none none none none) (trL (S.o 1 s') (S.o 2 s') (S.o 3 s') (S.o 4 s') (S.o 5 s') (S.o 6 s') (S.o 7 s') (S.o 8 s') (S.o 9 s') (S.o 10 s') (S.o 11 s') (S.o 12 s') (S.o 13 s') (S.o 14 s') (S.o 15 s') (some _) (some _) none none none)
      unfold trL
      repeat' first | exact Go.Ev.T.le_refl _ | exact Go.Ev.T.le_e _ | refine Go.Ev.T.le_same ?_ ?_ | refine Go.Ev.T.le_none ?_ ?_
    | false =>
      have hf : f' = true := hf
      subst hf
      refine Rn.rf rfl rfl C rfl (by simp) ?_; conv => whnf
      repeat' first | ((first | with_reducible (first | apply Qt | apply Qu) | refine Qa rfl ?_ | refine Qk rfl ?_ | refine Qb ?_ | refine Qc ?_ | refine Qi ?_ | refine Qj ?_) <;> conv => whnf)
      refine ⟨_, _, ⟨s', false, F', rfl, rfl⟩, ⟨.inr rfl, ⟨_, rfl, .pu trivial⟩, Shr.kp ?_ (H.kp s')⟩⟩
      show Go.Ev.T.le (trL (S.o 1 s') (S.o 2 s') (S.o 3 s') (S.o 4 s') (S.o 5 s') (S.o 6 s') (S.o 7 s') (S.o 8 s') (S.o 9 s') (S.o 10 s') (S.o 11 s') (S.o 12 s') (S.o 13 s') (S.o 14 s') (S.o 15 s') none none none none none) (trL (S.o 1 s') (S.o 2 s') (S.o 3 s') (S.o 4 s') (S.o 5 s') (S.o 6 s') (S.o 7 s') (S.o 8 s') (S.o 9 s') (S.o 10 s') (S.o 11 s') (S.o 12 s') (S.o 13 s') (S.o 14 s') (S.o 15 s') (some _) (some _) none none none)
      unfold trL
      repeat' first | exact Go.Ev.T.le_refl _ | exact Go.Ev.T.le_e _ | refine Go.Ev.T.le_same ?_ ?_ | refine Go.Ev.T.le_none ?_ ?_
  · refine X.le.mk ?_ ?_ (Nat.le_refl _) rfl rfl
    · unfold nxS
      repeat' first | exact Go.Ev.T.le_e _ | refine Go.Ev.T.le_some ?_ rfl ?_ | refine Go.Ev.T.le_none ?_ ?_
    · unfold trL
      repeat' first | exact Go.Ev.T.le_refl _ | exact Go.Ev.T.le_e _ | refine Go.Ev.T.le_some ?_ rfl ?_ | refine Go.Ev.T.le_same ?_ ?_ | refine Go.Ev.T.le_none ?_ ?_
end Go.Ev
namespace Go.Ev
open Classical in
theorem CallOk.toH {P : Program} {f : Nat} {ds : List D} {ob1 : T C} {nx1 a : Pos} {v v2 : D} {es : List (D × D)} (h : CallOk P f ds .e .h none v ob1 nx1 none) (ha : ob1.get a = some (.map es)) (hp : ∀ e ∈ es, Pu e.1 ∧ Pu e.2)
    (hv : ∀ (γ γ' : Gh) (w : World), γ'.cur .h = γ.cur a → γ'.β .h = γ.β a → (∀ b, γ.im b → γ'.im b) → Cv γ γ' w v v2) : CallOk P f ds .e .h none v2 (.n .e (some (.map es)) .e) (.o .h) none := by
  refine ⟨LgLe.refl _, by simp [Pos.nat], fun id hn => absurd trivial hn, fun so hs γ args w gh hargs hob hnx => ?_⟩
  have hall : ∀ id, so id := fun id => hs id trivial
  have hz : ∀ id, γ.cur id = 0 := fun id => hnx id (hall id) (Pos.nat_pos id)
  obtain ⟨c1, c2⟩ := h.ok so (fun id _ => hall id) γ args w gh hargs hob hnx
  refine ⟨c1, fun ro n R hR => c2 ro n R fun γ1 w1 u g1 F1 hu ho hn => ?_⟩
  let γ2 : Gh := ⟨fun i => if i = .h then γ1.cur a else 0, fun _ => γ1.β a, γ1.im⟩
  have c0 : γ2.cur .h = γ1.cur a := by show (if Pos.h = Pos.h then γ1.cur a else 0) = _; rw [if_pos rfl]
  have cn : ∀ i : Pos, i ≠ .h → γ2.cur i = 0 := fun i hi => by show (if i = Pos.h then γ1.cur a else 0) = _; rw [if_neg hi]
  have lt : ∀ i s, s < γ2.cur i → i = .h ∧ s < γ1.cur a := fun i s hi => by
    by_cases e : i = .h
    · subst e; rw [c0] at hi; exact ⟨rfl, hi⟩
    · rw [cn i e] at hi; exact absurd hi (Nat.not_lt_zero _)
  have G2 : GH γ2 w1 := by
    refine ⟨fun i s hi => g1.ob a s (lt i s hi).2, fun i s i' s' hi hi' he => ?_, fun b hb => ⟨(g1.im b hb).1, fun i s hi => (g1.im b hb).2 a s (lt i s hi).2⟩, g1.gl.im fun _ h => h⟩
    obtain ⟨e1, k1⟩ := lt i s hi
    obtain ⟨e2, k2⟩ := lt i' s' hi'
    exact ⟨e1.trans e2.symm, (g1.inj a s a s' k1 k2 he).2⟩
  refine hR γ2 w1 u G2 ⟨⟨fun i => by rw [hz]; exact Nat.zero_le _, fun i s hi => by rw [hz] at hi; exact absurd hi (Nat.not_lt_zero _), F1.up.sh, F1.up.im⟩, fun id hn => absurd trivial hn, F1.blk, fun i s _ h2 => ?_, F1.imn, F1.lp, F1.size, F1.os, F1.tape, F1.output, F1.fz⟩ (hv γ1 γ2 w1 c0 rfl (fun _ h => h) u hu) (fun i c _ hc => ?_) (fun i _ hi => cn i fun e => by subst e; simp [Pos.nat] at hi)
  · obtain ⟨_, k⟩ := lt i s h2
    rcases F1.new a s (by rw [hz]; exact Nat.zero_le _) k with h | ⟨s0, h, _⟩
    · exact .inl h
    · rw [hz] at h; exact absurd h (Nat.not_lt_zero _)
  · cases i with
    | h =>
      rw [T.get_h] at hc
      cases hc
      obtain ⟨q1, en, cl, q2, q3, q4⟩ := ho a _ (hall a) ha
      refine ⟨c0.trans q1, en, cl, q2, q3, fun j e f he hf => ?_⟩
      obtain ⟨k1, k2⟩ := hp e (List.mem_of_getElem? he)
      exact ⟨DV.pu (γ := γ1) (γ' := γ2) (fun _ h => h) _ _ k1 (q4 j e f he hf).1, DV.pu (γ := γ1) (γ' := γ2) (fun _ h => h) _ _ k2 (q4 j e f he hf).2⟩
    | o p => rw [T.get_o, T.get_e] at hc; cases hc
    | i p => rw [T.get_i, T.get_e] at hc; cases hc
theorem Cv.mpH {γ γ' : Gh} {w : World} {a : Pos} (h1 : γ'.cur .h = γ.cur a) (h2 : γ'.β .h = γ.β a) : Cv γ γ' w (.mp a) (.mp .h) := fun u h => by
  unfold DV at h ⊢
  rw [h1, h2]
  exact h
structure KeyOk {κ : Type} [DecidableEq κ] (ks : List LK) (kD : κ → D) (ok : κ → Prop) : Prop where
  eq : ∀ a b, ok a → ok b → eqR ks (kD a) (kD b) = some (decide (a = b))
def enD {κ ν : Type} (kD : κ → D) (vD : ν → D) (e : κ × ν) : D × D := (kD e.1, vD e.2)
section
variable {κ ν : Type} [DecidableEq κ] {ks : List LK} {kD : κ → D} {vD : ν → D} {ok : κ → Prop} (H : KeyOk ks kD ok)
include H
theorem findG {w : κ} (hw : ok w) : ∀ (M : List (κ × ν)), (∀ e ∈ M, ok e.1) → (∃ n, (w, n) ∈ M ∧ findD ks (kD w) (M.map (enD kD vD)) = some (some (vD n))) ∨ ((∀ n, (w, n) ∉ M) ∧ findD ks (kD w) (M.map (enD kD vD)) = some none)
  | [], _ => .inr ⟨fun _ h => (by cases h), rfl⟩
  | q :: M, h => by
    obtain ⟨v, n⟩ := q
    have hv := h (v, n) (by simp)
    have e : findD ks (kD w) (((v, n) :: M).map (enD kD vD)) = (match eqR ks (kD w) (kD v) with
      | some true => some (some (vD n))
      | some false => findD ks (kD w) (M.map (enD kD vD))
      | none => none) := rfl
    rw [e, H.eq _ _ hw hv]
    by_cases hwv : w = v
    · subst hwv
      rw [decide_eq_true rfl]
      exact .inl ⟨n, by simp, rfl⟩
    · rw [decide_eq_false hwv]
      rcases findG hw M (fun e he => h e (by simp [he])) with ⟨n', h1, h2⟩ | ⟨h1, h2⟩
      · exact .inl ⟨n', by simp [h1], h2⟩
      · refine .inr ⟨fun n' hn => ?_, h2⟩
        rcases List.mem_cons.1 hn with hn | hn
        · exact hwv (Prod.mk.inj hn).1
        · exact h1 n' hn
theorem putG {w : κ} (n : ν) (hw : ok w) : ∀ (M : List (κ × ν)), (∀ e ∈ M, ok e.1) → ∃ M' : List (κ × ν), (∀ e ∈ M', e = (w, n) ∨ e ∈ M) ∧ (w, n) ∈ M' ∧ (∀ e ∈ M, e.1 = w ∨ e ∈ M') ∧ ∀ {β : Type} (k : List (D × D) → Option β), putD ks (kD w) (vD n) (M.map (enD kD vD)) k = k (M'.map (enD kD vD))
  | [], _ => ⟨[(w, n)], fun e he => .inl (List.mem_singleton.1 he), by simp, fun e he => (by cases he), fun k => rfl⟩
  | q :: M, h => by
    obtain ⟨v, n'⟩ := q
    have hv := h (v, n') (by simp)
    have e : ∀ {β : Type} (k : List (D × D) → Option β), putD ks (kD w) (vD n) (((v, n') :: M).map (enD kD vD)) k = (match eqR ks (kD w) (kD v) with
      | some true => k ((kD w, vD n) :: M.map (enD kD vD))
      | some false => putD ks (kD w) (vD n) (M.map (enD kD vD)) fun l => k (enD kD vD (v, n') :: l)
      | none => none) := fun k => rfl
    by_cases hwv : w = v
    · subst hwv
      refine ⟨(w, n) :: M, fun e he => ?_, by simp, fun e he => ?_, fun k => ?_⟩
      · rcases List.mem_cons.1 he with rfl | he
        · exact .inl rfl
        · exact .inr (by simp [he])
      · rcases List.mem_cons.1 he with rfl | he
        · exact .inl rfl
        · exact .inr (by simp [he])
      · rw [e, H.eq _ _ hw hv, decide_eq_true rfl]
        rfl
    · obtain ⟨M', h1, h2, h3, h4⟩ := putG n hw M (fun e he => h e (by simp [he]))
      refine ⟨(v, n') :: M', fun e he => ?_, by simp [h2], fun e he => ?_, fun k => ?_⟩
      · rcases List.mem_cons.1 he with rfl | he
        · exact .inr (by simp)
        · rcases h1 e he with h | h
          · exact .inl h
          · exact .inr (by simp [h])
      · rcases List.mem_cons.1 he with rfl | he
        · exact .inr (by simp)
        · rcases h3 e he with h | h
          · exact .inl h
          · exact .inr (by simp [h])
      · rw [e, H.eq _ _ hw hv, decide_eq_false hwv]
        exact h4 fun l => k (enD kD vD (v, n') :: l)
variable {sl : T D} {ob : T C} {nx : Pos} {lg : Option (T Bool)} {K : X → Prop}
theorem WSt.lkpG {d id : Pos} {x i : RX} {w : κ} {z : D} {two : Bool} {M : List (κ × ν)} (hx : opd sl x = some (.mp id)) (hi : opd sl i = some (kD w)) (hob : ob.get id = some (.map (M.map (enD kD vD)))) (hw : ok w) (hM : ∀ e ∈ M, ok e.1)
    (h1 : ∀ n, (w, n) ∈ M → lRK lg id fun lg => wOut sl ob nx lg d K (bif two then .tp [vD n, .b true] else vD n)) (h2 : (∀ n, (w, n) ∉ M) → lRK lg id fun lg => wOut sl ob nx lg d K (bif two then .tp [z, .b false] else z)) : WSt (.lkp d z two ks x i) ⟨sl, ob, nx, lg⟩ K := by
  have hstep : step (.lkp d z two ks x i) sl ob nx lg = (match findD ks (kD w) (M.map (enD kD vD)) with
        | some (some v) => logR lg id fun lg => bif two then outK sl ob nx lg d (.tp [v, .b true]) else outK sl ob nx lg d v
        | some none => logR lg id fun lg => bif two then outK sl ob nx lg d (.tp [z, .b false]) else outK sl ob nx lg d z
        | none => none) := by
    show s_lkp d _ _ _ x i sl ob nx lg = _
    unfold s_lkp
    rw [hx, hi]
    simp only [hob, H.eq w w hw hw]
    rfl
  rcases findG H (vD := vD) hw M hM with ⟨n, k1, k2⟩ | ⟨k1, k2⟩
  · obtain ⟨l1, e1, h⟩ := lRK_ex (h1 n k1)
    obtain ⟨j1, j2⟩ := wOut_ok h
    refine ⟨_, ?_, j2⟩
    rw [hstep, k2, e1]
    cases two <;> exact j1
  · obtain ⟨l1, e1, h⟩ := lRK_ex (h2 k1)
    obtain ⟨j1, j2⟩ := wOut_ok h
    refine ⟨_, ?_, j2⟩
    rw [hstep, k2, e1]
    cases two <;> exact j1
theorem WSt.mupG {id : Pos} {x i v : RX} {w : κ} {n : ν} {M : List (κ × ν)} (hx : opd sl x = some (.mp id)) (hi : opd sl i = some (kD w)) (hv : opd sl v = some (vD n)) (hob : ob.get id = some (.map (M.map (enD kD vD)))) (hw : ok w) (hM : ∀ e ∈ M, ok e.1)
    (h : ∀ M' : List (κ × ν), (∀ e ∈ M', e = (w, n) ∨ e ∈ M) → (w, n) ∈ M' → (∀ e ∈ M, e.1 = w ∨ e ∈ M') → lWK lg id fun lg => T.setK id (.map (M'.map (enD kD vD))) ob fun ob => K ⟨sl, ob, nx, lg⟩) : WSt (.mup ks x i v) ⟨sl, ob, nx, lg⟩ K := by
  obtain ⟨M', h1, h2, h3, h4⟩ := putG H (vD := vD) n hw M hM
  obtain ⟨l1, e1, h⟩ := lWK_ex (h M' h1 h2 h3)
  rw [T.setK_eq] at h
  refine ⟨_, ?_, h⟩
  show s_mup _ x i v sl ob nx lg = _
  unfold s_mup
  rw [hx, hi, hv]
  simp only [hob, H.eq w w hw hw, h4]
  unfold objK
  rw [e1]
  show (T.setK id _ ob fun ob => some ⟨sl, ob, nx, l1⟩ : Option X) = _
  rw [T.setK_eq]
end
end Go.Ev
namespace Go.Ev
open Go.Proofs
set_option maxRecDepth 100000
structure Pt where
  n : Int
  a0 : Bool
  a1 : Bool
  a2 : Bool
  a3 : Bool
  a4 : Bool
  a5 : Bool
  a6 : Bool
  a7 : Bool
deriving DecidableEq
def ptK (p : Pt) : D := .ag [.i .i64 p.n, .b p.a0, .b p.a1, .b p.a2, .b p.a3, .b p.a4, .b p.a5, .b p.a6, .b p.a7]
def ptL : List LK := [.i .i64, .b, .b, .b, .b, .b, .b, .b, .b]
def ptOk (p : Pt) : Prop := wfB .i64 p.n = true
theorem pt_key : KeyOk ptL ptK ptOk := ⟨fun a b ha hb => by
  have ha : wfB .i64 a.n = true := ha
  have hb : wfB .i64 b.n = true := hb
  have hk : kEq .i64 .i64 = true := rfl
  obtain ⟨n, a0, a1, a2, a3, a4, a5, a6, a7⟩ := a
  obtain ⟨m, b0, b1, b2, b3, b4, b5, b6, b7⟩ := b
  simp only at ha hb
  simp only [ptL, ptK, eqR, eqL, eqC, hk, ha, hb, Bool.and_self, cond_true, Option.some.injEq, eqB_eq, Bool.and_true]
  rw [Bool.eq_iff_iff]
  simp [Pt.mk.injEq]⟩
def mpt (m : Mo) : Pt := ⟨m.n, nz (m.h 0), nz (m.h 1), nz (m.h 2), nz (m.h 3), nz (m.h 4), nz (m.h 5), nz (m.h 6), nz (m.h 7)⟩
def boD (b : Bool) : D := .b b
abbrev Memo := List (Pt × Bool)
def mapL (M : Memo) : List (D × D) := M.map (enD ptK boD)
theorem mapL_pu (M : Memo) : ∀ e ∈ mapL M, Pu e.1 ∧ Pu e.2 := fun e he => by
  obtain ⟨p, _, rfl⟩ := List.mem_map.1 he
  simp [enD, ptK, boD, Pu, PuL]
theorem mapL_kp {n : Nat} {M : Memo} : KpC n (.map (mapL M)) := fun e he => by
  obtain ⟨p, _, rfl⟩ := List.mem_map.1 he
  simp [enD, ptK, boD, Kp, KpL, Pu]
noncomputable def mapP (M : Memo) : T C := .n .e (some (.map (mapL M))) .e
theorem mapP_kp (M : Memo) : KpO 2 (mapP M) := by
  show TAll (fun id c => id.nat < 2 ∧ KpC 2 c) _
  exact TAll.some TAll.e ⟨by simp [Pos.nat], mapL_kp⟩ TAll.e
structure MOk (B : Bk) (M : Memo) : Prop where
  wf : ∀ e ∈ M, ptOk e.1
  ok : ∀ e ∈ M, ∀ (k : Nat) (Q : List Ln), okT B Q → Q.length + k = B.ls.length → mpt (mo1 B Q) = e.1 → e.2 = canT B k Q
theorem MOk.nil (B : Bk) : MOk B [] := ⟨fun e h => (by cases h), fun e h => (by cases h)⟩
theorem nz_fl {B : Bk} (Q : List Ln) (q : Nat) : nz ((mo1 B Q).h q) = flT Q q := by
  have g1 := cOut_bd Q (q : Int) Q.length
  have g2 := tOut_bd Q ((q - 4 : Nat) : Int) Q.length
  show nz (if q < 4 then cOut Q (q : Int) Q.length + 1 else tOut Q ((q - 4 : Nat) : Int) Q.length + 1) = flT Q q
  unfold flT nz
  by_cases hq : q < 4
  · simp only [if_pos hq]
    by_cases h : 0 ≤ cOut Q (q : Int) Q.length
    · rw [decide_eq_true h, decide_eq_false (by omega)]; rfl
    · rw [decide_eq_false h, decide_eq_true (by omega)]; rfl
  · simp only [if_neg hq]
    by_cases h : 0 ≤ tOut Q ((q - 4 : Nat) : Int) Q.length
    · rw [decide_eq_true h, decide_eq_false (by omega)]; rfl
    · rw [decide_eq_false h, decide_eq_true (by omega)]; rfl
theorem can_mpt {B : Bk} (V : VB B) {k k' : Nat} {Q Q' : List Ln} (h : okT B Q) (h' : okT B Q') (hk : Q.length + k = B.ls.length) (hk' : Q'.length + k' = B.ls.length) (he : mpt (mo1 B Q') = mpt (mo1 B Q)) : canT B k' Q' = canT B k Q := by
  obtain ⟨e, f0, f1, f2, f3, f4, f5, f6, f7⟩ := Pt.mk.inj he
  have e : (Q'.length : Int) = (Q.length : Int) := e
  have e : Q'.length = Q.length := by omega
  have ek : k' = k := by omega
  subst ek
  refine can_pt V k' h h' e hk fun q hq => ?_
  rw [nz_fl, nz_fl] at f0 f1 f2 f3 f4 f5 f6 f7
  have : q = 0 ∨ q = 1 ∨ q = 2 ∨ q = 3 ∨ q = 4 ∨ q = 5 ∨ q = 6 ∨ q = 7 := by omega
  rcases this with rfl | rfl | rfl | rfl | rfl | rfl | rfl | rfl <;> assumption
open Classical in
noncomputable def canM (B : Bk) (k : Nat) (m : Mo) : Bool := decide (∃ Q, okT B Q ∧ Q.length + k = B.ls.length ∧ m = mo1 B Q ∧ canT B k Q = true)
open Classical in
theorem canM_eq {B : Bk} (V : VB B) {k : Nat} {Q : List Ln} (h : okT B Q) (hk : Q.length + k = B.ls.length) : canM B k (mo1 B Q) = canT B k Q := by
  unfold canM
  cases hc : canT B k Q with
  | true => exact decide_eq_true ⟨Q, h, hk, rfl, hc⟩
  | false =>
    refine decide_eq_false ?_
    rintro ⟨Q', h1, h2, h3, h4⟩
    rw [can_mpt V h h1 hk h2 (by rw [h3])] at h4
    rw [hc] at h4; cases h4
def wkQ (B : Bk) : List D := [.i .i64 B.n, .i .i64 B.coin, .i .i64 B.box, .lst 3 (rows lnD B.ls), .lst 3 (rows ctD B.cs)]
theorem wkQ_pu (B : Bk) : PuL (wkQ B) := by simp [wkQ, PuL, Pu, pu_ln, pu_ct]
theorem wk_any {B : Bk} {d : D} {rest : List D} (hr : PuL rest) : ∀ γ w, CvL γ γ w (.ag [.i .i64 B.n, .i .i64 B.coin, .i .i64 B.box, .lst 3 (rows lnD B.ls), .lst 3 (rows ctD B.cs), d] :: rest) (.ag [.i .i64 B.n, .i .i64 B.coin, .i .i64 B.box, .lst 3 (rows lnD B.ls), .lst 3 (rows ctD B.cs), .any] :: rest) := fun γ w =>
  .cons (.ag (.cons (.pu (fun _ h => h) trivial) (.cons (.pu (fun _ h => h) trivial) (.cons (.pu (fun _ h => h) trivial) (.cons (.pu (fun _ h => h) (pu_ln _)) (.cons (.pu (fun _ h => h) (pu_ct _)) (.cons .any .nil))))))) (.pu (fun _ h => h) hr)
def hdS (B : Bk) (m : Mo) : T D := (.n (.n (.n .e (some (.pt (.o .h) 0 0)) .e) none .e) none (.n (.n .e (some (.pt (.i .h) 0 0)) .e) none (.n .e (some (.fn p156 [] [.pl (wk6 B.n B.coin B.box B.ls B.cs) 0, .pl (moD m) 0])) .e)))
noncomputable def hdM (B : Bk) (m : Mo) : Mns (Memo × Bool) where
  o := fun i s => match i with
    | 1 => some (.map (mapL s.1))
    | 2 => some (.cells false [.o (.fn p123 [.ag (wkQ B ++ [.mp .h])] []) 0] 1)
    | 3 => some (.cells false [.o (.b s.2) 0] 1)
    | 4 => some (.lp (hdS B m) [p8] 11 (rfA (bodyC Try.f139) 0) (rfB (bodyC Try.f139) 0) (bif s.2 then .done else .ready) (bif s.2 then some .ret else none))
    | _ => none
theorem hdS_kp {B : Bk} {m : Mo} : ∀ s d, (hdS B m).get s = some d → Kp 16 d := by
  show TAll (fun _ d => Kp 16 d) (hdS B m)
  unfold hdS
  repeat' first | exact TAll.e | refine TAll.some ?_ ?_ ?_ | refine TAll.none ?_ ?_
  all_goals simp [Kp, KpL, Pu, PuL, pu_wk6, pu_moD, Pos.nat]
theorem hdM_kp {B : Bk} {m : Mo} (s : Memo × Bool) : KpO 16 ((hdM B m).base s) := by
  show TAll (fun id c => id.nat < 16 ∧ KpC 16 c) _
  unfold Mns.base trL hdM
  repeat' first | exact TAll.e | refine TAll.some ?_ ?_ ?_ | refine TAll.none ?_ ?_
  all_goals refine ⟨by simp [Pos.nat], ?_⟩
  all_goals first
    | exact mapL_kp
    | exact hdS_kp
    | (refine KpL.all ?_; simp [wkQ, KpL, Kp, Cell.d, Pu, pu_ln, pu_ct, Pos.nat])
end Go.Ev
namespace Go.Ev
open Go.Proofs
set_option maxRecDepth 100000
def CanOk (B : Bk) (k : Nat) : Prop := ∀ M, MOk B M → ∀ Q, okT B Q → Q.length + k = B.ls.length → ∃ M', MOk B M' ∧ CallOk Try.prog p123.ix [.ag (wkQ B ++ [.mp .h]), .ag (moD (mo1 B Q))] (mapP M) (.o .h) none (.b (canT B k Q)) (mapP M') (.o .h) none
def hdI (B : Bk) (_ : List Mo) (s : Memo × Bool) : Prop := MOk B s.1 ∧ s.2 = false
def hdR (B : Bk) (k : Nat) (s : Memo × Bool) (m : Mo) (s' : Memo × Bool) (g : Bool) : Prop := MOk B s'.1 ∧ s'.2 = canM B k m ∧ g = !s'.2
theorem CallOk.mapHere {f : Nat} {M M' : Memo} {ds : List D} {t : Bool} (Hc : CallOk Try.prog f ds (mapP M) (.o .h) none (.b t) (mapP M') (.o .h) none) {ob : T C} {nx : Pos} {lg : Option (T Bool)} (hid : ob.get .h = some (.map (mapL M))) (hlt : 1 < nx.nat) (hd : ∀ γ w, CvL γ (pul1 .h γ) w ds ds) : CallOk Try.prog f ds ob nx lg (.b t) (T.set .h (.map (mapL M')) ob) nx (lgW lg .h) :=
  CallOk.oneG Hc rfl (mapL_pu M) (mapL_pu M') hid hlt hd (fun γ γ' w => .pu psh1_im trivial)
theorem hd_ok {B : Bk} (V : VB B) {k : Nat} (hcan : CanOk B k) {Q : List Ln} (m : Mo) (hQ : okT B Q) (hk : Q.length + (k + 1) = B.ls.length) : MnsOk (hdM B m) (.o (.o .h)) (hdI B) (hdR B k) ((stp B Q).map (mo1 B)) := by
  refine ⟨by simp [Pos.nat], hdM_kp, ?_, ?_⟩
  · rintro h ⟨M, f⟩ a ⟨M', f'⟩ _ _ ⟨h1, h2, h3⟩
    exact ⟨h1, by simpa using h3⟩
  · rintro h ⟨M, f⟩ ⟨hM, hf⟩ a hpre
    obtain ⟨T', hT', rfl⟩ := List.mem_map.1 (hpre.subset (show a ∈ h ++ [a] by simp))
    have hf : f = false := hf
    subst hf
    obtain ⟨ho, hl⟩ := hQ.step hT'
    have hM : MOk B M := hM
    obtain ⟨M', hM', C⟩ := hcan M hM T' ho (by omega)
    have hcm : canT B k T' = canM B k (mo1 B T') := (canM_eq V ho (by omega)).symm
    refine RndOk.runE (sl0 := hdS B m) rfl rc139a0_ok rc139b0_ok ⟨_, rfl, ?_⟩
    unfold Mns.base trL hdM hdS
    conv => whnf
    repeat' first | ((first | with_reducible (first | apply Qt | apply Qu) | refine Qa rfl ?_ | refine Qk rfl ?_ | refine Qb ?_ | refine Qc ?_ | refine Qi ?_ | refine Qj ?_) <;> conv => whnf)
    refine ⟨rfl, rfl, _, _, _, _, _, _, rfl, ?_⟩
    conv => whnf
    repeat' first | ((first | with_reducible (first | apply Qt | apply Qu) | refine Qa rfl ?_ | refine Qk rfl ?_ | refine Qb ?_ | refine Qc ?_ | refine Qi ?_ | refine Qj ?_) <;> conv => whnf)
    refine WCall.of (CallOk.mapHere C rfl (show 1 < Pos.nat nb1 from by decide) (fun γ w => .cons (.ag (.app (.pu pul1_im (wkQ_pu B)) rfl (.cons .mpI .nil))) (.cons (.ag (.pu pul1_im (pu_moD _))) .nil))) ?_; conv => whnf
    rw [hcm]
    cases hc : canM B k (mo1 B T') with
    | true =>
      repeat' first | ((first | with_reducible (first | apply Qt | apply Qu) | refine Qa rfl ?_ | refine Qk rfl ?_ | refine Qb ?_ | refine Qc ?_ | refine Qi ?_ | refine Qj ?_ | with_reducible (first | refine Qm ?_ | refine Qn ?_ | refine Qo ?_ | refine Qp ?_ | refine WB.nt ?_ | refine WB.nf ?_ | refine WB.dec (fun h => ?_) (fun h => ?_) | refine WB.ndec (fun h => ?_) (fun h => ?_)) | refine WB.mk (fun h => ?_) (fun h => ?_)) <;> conv => whnf)
      refine ⟨_, _, _, _, _, _, _, (hdM B m).base (M', true), rfl, rfl, Shr.kp ?_ (hdM_kp _), (M', true), ⟨hM', hc.symm, rfl⟩, rfl⟩
      unfold Mns.base trL hdM hdS
      repeat' first | exact T.le_refl _ | exact T.le_e _ | refine T.le_some ?_ rfl ?_ | refine T.le_same ?_ ?_ | refine T.le_none ?_ ?_
    | false =>
      repeat' first | ((first | with_reducible (first | apply Qt | apply Qu) | refine Qa rfl ?_ | refine Qk rfl ?_ | refine Qb ?_ | refine Qc ?_ | refine Qi ?_ | refine Qj ?_ | with_reducible (first | refine Qm ?_ | refine Qn ?_ | refine Qo ?_ | refine Qp ?_ | refine WB.nt ?_ | refine WB.nf ?_ | refine WB.dec (fun h => ?_) (fun h => ?_) | refine WB.ndec (fun h => ?_) (fun h => ?_)) | refine WB.mk (fun h => ?_) (fun h => ?_)) <;> conv => whnf)
      refine ⟨_, _, _, _, _, _, _, (hdM B m).base (M', false), rfl, rfl, Shr.kp ?_ (hdM_kp _), (M', false), ⟨hM', hc.symm, rfl⟩, rfl⟩
      unfold Mns.base trL hdM hdS
      repeat' first | exact T.le_refl _ | exact T.le_e _ | refine T.le_some ?_ rfl ?_ | refine T.le_same ?_ ?_ | refine T.le_none ?_ ?_
theorem hd_fld {B : Bk} (V : VB B) {k : Nat} : ∀ (L : List (List Ln)) {s s' : Memo × Bool} {g : Bool}, (∀ T' ∈ L, okT B T' ∧ T'.length + k = B.ls.length) → MOk B s.1 ∧ s.2 = false → Fld (hdR B k) (L.map (mo1 B)) s s' g → MOk B s'.1 ∧ s'.2 = L.any (canT B k) ∧ g = !s'.2
  | [], s, s', g, _, hI, h => by
    cases h
    exact ⟨hI.1, hI.2, by rw [hI.2]; rfl⟩
  | T' :: L, s, s', g, hL, hI, h => by
    obtain ⟨ho, hl⟩ := hL T' (by simp)
    have hc := canM_eq V ho hl
    cases h with
    | stop h =>
      obtain ⟨h1, h2, h3⟩ := h
      rw [hc] at h2
      have h4 : canT B k T' = true := by rw [← h2]; simpa using h3.symm
      exact ⟨h1, by rw [h2, List.any_cons, h4]; rfl, h3⟩
    | go h k2 =>
      obtain ⟨h1, h2, h3⟩ := h
      rename_i s1
      have h5 : s1.2 = false := by simpa using h3.symm
      rw [hc, h5] at h2
      obtain ⟨q1, q2, q3⟩ := hd_fld V L (fun x hx => hL x (by simp [hx])) ⟨h1, h5⟩ k2
      exact ⟨q1, by rw [q2, List.any_cons, ← h2]; rfl, q3⟩
theorem j_someC {B : Bk} (V : VB B) {k : Nat} (hcan : CanOk B k) {Q : List Ln} (hQ : okT B Q) (hk : Q.length + (k + 1) = B.ls.length) (M : Memo) (hM : MOk B M) :
    ∃ M', MOk B M' ∧ CallOk Try.prog p140.ix [.fn p156 [] [.pl (wk6 B.n B.coin B.box B.ls B.cs) 0, .pl (moD (mo1 B Q)) 0], .fn p123 [.ag (wkQ B ++ [.mp .h])] []] (mapP M) (.o .h) none (.b ((stp B Q).any (canT B k))) (mapP M') (.o .h) none := by
  obtain ⟨v, ob', ⟨M', hM', rfl, rfl⟩, C⟩ := CallOk.runE (Φ := fun v ob' => ∃ M', MOk B M' ∧ v = .b ((stp B Q).any (canT B k)) ∧ ob' = mapP M') (ob := mapP M) (nx := .o .h) (nx' := .o .h) (ds := [.fn p156 [] [.pl (wk6 B.n B.coin B.box B.ls B.cs) 0, .pl (moD (mo1 B Q)) 0], .fn p123 [.ag (wkQ B ++ [.mp .h])] []]) fn139 (by simp) (Nat.le_refl _) (by
    conv => whnf
    repeat' first | ((first | with_reducible (first | apply Qt | apply Qu) | refine Qa rfl ?_ | refine Qk rfl ?_ | refine Qb ?_ | refine Qc ?_ | refine Qi ?_ | refine Qj ?_) <;> conv => whnf)
    refine Rn.le (a := ⟨hdS B (mo1 B Q), trL (some (.map (mapL M))) (some (.cells false [.o (.fn p123 [.ag (wkQ B ++ [.mp .h])] []) 0] 1)) (some (.cells false [.o (.b false) 0] 1)) none none none none none none none none none none none none none none none none none, .o (.o .h), none⟩) ?_ ?_
    · obtain ⟨_, _, ⟨s', g, F, rfl, rfl⟩, Cn⟩ := j_itN (hdM B (mo1 B Q)) (.o (.o .h)) _ _ V (by omega) (hd_ok V hcan (mo1 B Q) hQ hk) (M, false) ⟨hM, rfl⟩
      obtain ⟨M', f'⟩ := s'
      obtain ⟨q1, q2, q3⟩ := hd_fld V _ (fun T' h => by obtain ⟨h1, h2⟩ := hQ.step h; exact ⟨h1, by omega⟩) (show MOk B (M, false).1 ∧ (M, false).2 = false from ⟨hM, rfl⟩) F
      have q1 : MOk B M' := q1
      have q2 : f' = (stp B Q).any (canT B k) := q2
      have q3 : g = !f' := q3
      rw [← q2]
      cases f' with
      | true =>
        refine Rn.rf rfl rfl (Cn.lower (by decide)) rfl (by simp) ?_; conv => whnf
        repeat' first | ((first | with_reducible (first | apply Qt | apply Qu) | refine Qa rfl ?_ | refine Qk rfl ?_ | refine Qb ?_ | refine Qc ?_ | refine Qi ?_ | refine Qj ?_) <;> conv => whnf)
        refine ⟨_, _, ⟨M', q1, rfl, rfl⟩, ⟨.inr rfl, ⟨_, rfl, .pu trivial⟩, Shr.kp ?_ (mapP_kp M')⟩⟩
        show T.le (T.n .e (some (.map (mapL M'))) .e : T Ev.C) _
        refine T.le_some (T.le_e _) rfl (T.le_e _)
      | false =>
        refine Rn.rf rfl rfl (Cn.lower (by decide)) rfl (by simp) ?_; conv => whnf
        repeat' first | ((first | with_reducible (first | apply Qt | apply Qu) | refine Qa rfl ?_ | refine Qk rfl ?_ | refine Qb ?_ | refine Qc ?_ | refine Qi ?_ | refine Qj ?_) <;> conv => whnf)
        refine ⟨_, _, ⟨M', q1, rfl, rfl⟩, ⟨.inr rfl, ⟨_, rfl, .pu trivial⟩, Shr.kp ?_ (mapP_kp M')⟩⟩
        show T.le (T.n .e (some (.map (mapL M'))) .e : T Ev.C) _
        refine T.le_some (T.le_e _) rfl (T.le_e _)
    · refine X.le.mk ?_ ?_ (Nat.le_refl _) rfl rfl
      · unfold hdS
        repeat' first | exact T.le_e _ | refine T.le_some ?_ rfl ?_ | refine T.le_none ?_ ?_
      · unfold trL
        repeat' first | exact T.le_refl _ | exact T.le_e _ | refine T.le_some ?_ rfl ?_ | refine T.le_same ?_ ?_ | refine T.le_ee ?_ ?_ | refine T.le_none ?_ ?_)
  exact ⟨M', hM', C⟩
end Go.Ev
namespace Go.Ev
open Go.Proofs
set_option maxRecDepth 100000
theorem right_bk (B : Bk) (hc : B.cs.length ≤ 1000) (m : Mo) (d : D) : PureF Try.prog p80.ix [.ag [.i .i64 B.n, .i .i64 B.coin, .i .i64 B.box, .lst 3 (rows lnD B.ls), .lst 3 (rows ctD B.cs), d], .ag (moD m)] (.b (rightB B.cs m)) :=
  (j_isRight B.n B.coin B.box B.ls B.cs m hc).sub (wk_any (by simp [PuL, Pu, pu_moD]))
theorem nexts_bk (B : Bk) (m : Mo) (d : D) : PureF Try.prog p138.ix [.ag [.i .i64 B.n, .i .i64 B.coin, .i .i64 B.box, .lst 3 (rows lnD B.ls), .lst 3 (rows ctD B.cs), d], .ag (moD m)] (.fn p156 [] [.pl (wk6 B.n B.coin B.box B.ls B.cs) 0, .pl (moD m) 0]) :=
  (j_nexts B.n B.coin B.box B.ls B.cs m).sub (wk_any (by simp [PuL, Pu, pu_moD]))
theorem canT_s (B : Bk) (k : Nat) (Q : List Ln) : canT B (k + 1) Q = (rightB B.cs (mo1 B Q) && (stp B Q).any (canT B k)) := rfl
theorem canT_no {B : Bk} {Q : List Ln} (h : rightB B.cs (mo1 B Q) = false) : ∀ k, canT B k Q = false
  | 0 => h
  | k + 1 => by rw [canT_s, h]; rfl
theorem MOk.put {B : Bk} (V : VB B) {M M' : Memo} {k : Nat} {Q : List Ln} (h : MOk B M) (hQ : okT B Q) (hk : Q.length + k = B.ls.length) (hw : ptOk (mpt (mo1 B Q))) (h1 : ∀ e ∈ M', e = (mpt (mo1 B Q), canT B k Q) ∨ e ∈ M) : MOk B M' := by
  refine ⟨fun e he => ?_, fun e he k' Q' q1 q2 q3 => ?_⟩
  · rcases h1 e he with rfl | he
    · exact hw
    · exact h.wf e he
  · rcases h1 e he with rfl | he
    · exact can_mpt V q1 hQ q2 hk q3.symm
    · exact h.ok e he k' Q' q1 q2 q3
set_option maxHeartbeats 1000000 in
theorem j_canBe {B : Bk} (V : VB B) : ∀ k, CanOk B k := by
  intro k
  induction k with
  | zero =>
    intro M hM Q hQ hk
    have e1 := rows_length lnD B.ls
    have hlen := V.len
    have hmn : (mo1 B Q).n = (Q.length : Int) := rfl
    have hw : ptOk (mpt (mo1 B Q)) := wf_small (show (_ : Int) ≤ (Q.length : Int) by omega) (show (Q.length : Int) ≤ _ by omega)
    have cP := j_point (mo1 B Q)
    have cR := right_bk B (by have := V.clen; omega) (mo1 B Q) (.mp .h)
    have cN := nexts_bk B (mo1 B Q) (.mp .h)
    obtain ⟨v, ob', ⟨M', hM', rfl, rfl⟩, Hc⟩ := CallOk.runE (Φ := fun v ob' => ∃ M', MOk B M' ∧ v = .b (canT B 0 Q) ∧ ob' = mapP M') (ob := mapP M) (nx := .o .h) (nx' := .o .h) (ds := [.ag (wkQ B ++ [.mp .h]), .ag (moD (mo1 B Q))]) fn122 (by simp) (Nat.le_refl _) (by
      unfold wkQ
      conv => whnf
      repeat' first | ((first | with_reducible (first | apply Qt | apply Qu) | refine Qa rfl ?_ | refine Qk rfl ?_ | refine Qb ?_ | refine Qc ?_ | refine Qi ?_ | refine Qj ?_ | refine Qf (cP) ?_) <;> conv => whnf)
      refine WSt.lkpG pt_key (vD := boD) (w := mpt (mo1 B Q)) (M := M) rfl rfl rfl hw hM.wf (fun b hb => ?_) (fun hno => ?_)
      · have hb' := hM.ok _ hb 0 Q hQ hk rfl
        have hb' : b = canT B 0 Q := hb'
        subst hb'
        conv => whnf
        repeat' first | ((first | with_reducible (first | apply Qt | apply Qu) | refine Qa rfl ?_ | refine Qk rfl ?_ | refine Qb ?_ | refine Qc ?_ | refine Qi ?_ | refine Qj ?_ | with_reducible (first | refine Qm ?_ | refine Qn ?_ | refine Qo ?_ | refine Qp ?_ | refine WB.nt ?_ | refine WB.nf ?_ | refine WB.dec (fun h => ?_) (fun h => ?_) | refine WB.ndec (fun h => ?_) (fun h => ?_)) | refine WB.mk (fun h => ?_) (fun h => ?_)) <;> conv => whnf)
        refine ⟨_, _, ⟨M, hM, rfl, rfl⟩, ⟨.inr rfl, ⟨_, rfl, .pu trivial⟩, Shr.kp ?_ (mapP_kp M)⟩⟩
        show T.le (T.n .e (some (.map (mapL M))) .e : T Ev.C) _
        refine T.le_some (T.le_e _) rfl (T.le_e _)
      · cases hr : rightB B.cs (mo1 B Q) with
        | false =>
          rw [hr] at cR
          have hcan := canT_no hr 0
          conv => whnf
          repeat' first | ((first | with_reducible (first | apply Qt | apply Qu) | refine Qa rfl ?_ | refine Qk rfl ?_ | refine Qb ?_ | refine Qc ?_ | refine Qi ?_ | refine Qj ?_ | refine Qf (cR) ?_ | with_reducible (first | refine Qm ?_ | refine Qn ?_ | refine Qo ?_ | refine Qp ?_ | refine WB.nt ?_ | refine WB.nf ?_ | refine WB.dec (fun h => ?_) (fun h => ?_) | refine WB.ndec (fun h => ?_) (fun h => ?_)) | refine WB.mk (fun h => ?_) (fun h => ?_)) <;> conv => whnf)
          refine WSt.mupG pt_key (vD := boD) (w := mpt (mo1 B Q)) (n := false) (M := M) rfl rfl rfl rfl hw hM.wf (fun M2 h1 _ _ => ?_); conv => whnf
          repeat' first | ((first | with_reducible (first | apply Qt | apply Qu) | refine Qa rfl ?_ | refine Qk rfl ?_ | refine Qb ?_ | refine Qc ?_ | refine Qi ?_ | refine Qj ?_ | with_reducible (first | refine Qm ?_ | refine Qn ?_ | refine Qo ?_ | refine Qp ?_ | refine WB.nt ?_ | refine WB.nf ?_ | refine WB.dec (fun h => ?_) (fun h => ?_) | refine WB.ndec (fun h => ?_) (fun h => ?_)) | refine WB.mk (fun h => ?_) (fun h => ?_)) <;> conv => whnf)
          refine ⟨_, _, ⟨M2, hM.put V hQ hk hw (by rw [hcan]; exact h1), rfl, rfl⟩, ⟨.inr rfl, ⟨_, rfl, by rw [hcan]; exact .pu trivial⟩, Shr.kp ?_ (mapP_kp M2)⟩⟩
          show T.le (T.n .e (some (.map (mapL M2))) .e : T Ev.C) _
          refine T.le_some (T.le_e _) rfl (T.le_e _)
        | true =>
          rw [hr] at cR
          have hcan : canT B 0 Q = true := hr
          conv => whnf
          repeat' first | ((first | with_reducible (first | apply Qt | apply Qu) | refine Qa rfl ?_ | refine Qk rfl ?_ | refine Qb ?_ | refine Qc ?_ | refine Qi ?_ | refine Qj ?_ | refine Qf (cR) ?_ | with_reducible (first | refine Qm ?_ | refine Qn ?_ | refine Qo ?_ | refine Qp ?_ | refine WB.nt ?_ | refine WB.nf ?_ | refine WB.dec (fun h => ?_) (fun h => ?_) | refine WB.ndec (fun h => ?_) (fun h => ?_)) | refine WB.mk (fun h => ?_) (fun h => ?_)) <;> conv => whnf)
          refine WSt.mupG pt_key (vD := boD) (w := mpt (mo1 B Q)) (n := true) (M := M) rfl rfl rfl rfl hw hM.wf (fun M2 h1 _ _ => ?_); conv => whnf
          repeat' first | ((first | with_reducible (first | apply Qt | apply Qu) | refine Qa rfl ?_ | refine Qk rfl ?_ | refine Qb ?_ | refine Qc ?_ | refine Qi ?_ | refine Qj ?_ | with_reducible (first | refine Qm ?_ | refine Qn ?_ | refine Qo ?_ | refine Qp ?_ | refine WB.nt ?_ | refine WB.nf ?_ | refine WB.dec (fun h => ?_) (fun h => ?_) | refine WB.ndec (fun h => ?_) (fun h => ?_)) | refine WB.mk (fun h => ?_) (fun h => ?_)) <;> conv => whnf)
          refine ⟨_, _, ⟨M2, hM.put V hQ hk hw (by rw [hcan]; exact h1), rfl, rfl⟩, ⟨.inr rfl, ⟨_, rfl, by rw [hcan]; exact .pu trivial⟩, Shr.kp ?_ (mapP_kp M2)⟩⟩
          show T.le (T.n .e (some (.map (mapL M2))) .e : T Ev.C) _
          refine T.le_some (T.le_e _) rfl (T.le_e _))
    exact ⟨M', hM', Hc⟩
  | succ k ih =>
    intro M hM Q hQ hk
    have e1 := rows_length lnD B.ls
    have hlen := V.len
    have hmn : (mo1 B Q).n = (Q.length : Int) := rfl
    have hw : ptOk (mpt (mo1 B Q)) := wf_small (show (_ : Int) ≤ (Q.length : Int) by omega) (show (Q.length : Int) ≤ _ by omega)
    have cP := j_point (mo1 B Q)
    have cR := right_bk B (by have := V.clen; omega) (mo1 B Q) (.mp .h)
    have cN := nexts_bk B (mo1 B Q) (.mp .h)
    obtain ⟨v, ob', ⟨M', hM', rfl, rfl⟩, Hc⟩ := CallOk.runE (Φ := fun v ob' => ∃ M', MOk B M' ∧ v = .b (canT B (k + 1) Q) ∧ ob' = mapP M') (ob := mapP M) (nx := .o .h) (nx' := .o .h) (ds := [.ag (wkQ B ++ [.mp .h]), .ag (moD (mo1 B Q))]) fn122 (by simp) (Nat.le_refl _) (by
      unfold wkQ
      conv => whnf
      repeat' first | ((first | with_reducible (first | apply Qt | apply Qu) | refine Qa rfl ?_ | refine Qk rfl ?_ | refine Qb ?_ | refine Qc ?_ | refine Qi ?_ | refine Qj ?_ | refine Qf (cP) ?_) <;> conv => whnf)
      refine WSt.lkpG pt_key (vD := boD) (w := mpt (mo1 B Q)) (M := M) rfl rfl rfl hw hM.wf (fun b hb => ?_) (fun hno => ?_)
      · have hb' := hM.ok _ hb (k + 1) Q hQ hk rfl
        have hb' : b = canT B (k + 1) Q := hb'
        subst hb'
        conv => whnf
        repeat' first | ((first | with_reducible (first | apply Qt | apply Qu) | refine Qa rfl ?_ | refine Qk rfl ?_ | refine Qb ?_ | refine Qc ?_ | refine Qi ?_ | refine Qj ?_ | with_reducible (first | refine Qm ?_ | refine Qn ?_ | refine Qo ?_ | refine Qp ?_ | refine WB.nt ?_ | refine WB.nf ?_ | refine WB.dec (fun h => ?_) (fun h => ?_) | refine WB.ndec (fun h => ?_) (fun h => ?_)) | refine WB.mk (fun h => ?_) (fun h => ?_)) <;> conv => whnf)
        refine ⟨_, _, ⟨M, hM, rfl, rfl⟩, ⟨.inr rfl, ⟨_, rfl, .pu trivial⟩, Shr.kp ?_ (mapP_kp M)⟩⟩
        show T.le (T.n .e (some (.map (mapL M))) .e : T Ev.C) _
        refine T.le_some (T.le_e _) rfl (T.le_e _)
      · cases hr : rightB B.cs (mo1 B Q) with
        | false =>
          rw [hr] at cR
          have hcan := canT_no hr (k + 1)
          conv => whnf
          repeat' first | ((first | with_reducible (first | apply Qt | apply Qu) | refine Qa rfl ?_ | refine Qk rfl ?_ | refine Qb ?_ | refine Qc ?_ | refine Qi ?_ | refine Qj ?_ | refine Qf (cR) ?_ | with_reducible (first | refine Qm ?_ | refine Qn ?_ | refine Qo ?_ | refine Qp ?_ | refine WB.nt ?_ | refine WB.nf ?_ | refine WB.dec (fun h => ?_) (fun h => ?_) | refine WB.ndec (fun h => ?_) (fun h => ?_)) | refine WB.mk (fun h => ?_) (fun h => ?_)) <;> conv => whnf)
          refine WSt.mupG pt_key (vD := boD) (w := mpt (mo1 B Q)) (n := false) (M := M) rfl rfl rfl rfl hw hM.wf (fun M2 h1 _ _ => ?_); conv => whnf
          repeat' first | ((first | with_reducible (first | apply Qt | apply Qu) | refine Qa rfl ?_ | refine Qk rfl ?_ | refine Qb ?_ | refine Qc ?_ | refine Qi ?_ | refine Qj ?_ | with_reducible (first | refine Qm ?_ | refine Qn ?_ | refine Qo ?_ | refine Qp ?_ | refine WB.nt ?_ | refine WB.nf ?_ | refine WB.dec (fun h => ?_) (fun h => ?_) | refine WB.ndec (fun h => ?_) (fun h => ?_)) | refine WB.mk (fun h => ?_) (fun h => ?_)) <;> conv => whnf)
          refine ⟨_, _, ⟨M2, hM.put V hQ hk hw (by rw [hcan]; exact h1), rfl, rfl⟩, ⟨.inr rfl, ⟨_, rfl, by rw [hcan]; exact .pu trivial⟩, Shr.kp ?_ (mapP_kp M2)⟩⟩
          show T.le (T.n .e (some (.map (mapL M2))) .e : T Ev.C) _
          refine T.le_some (T.le_e _) rfl (T.le_e _)
        | true =>
          rw [hr] at cR
          have hcan : canT B (k + 1) Q = (stp B Q).any (canT B k) := by rw [canT_s, hr]; rfl
          obtain ⟨M1, hM1, Hs⟩ := j_someC V ih hQ hk M hM
          conv => whnf
          repeat' first | ((first | with_reducible (first | apply Qt | apply Qu) | refine Qa rfl ?_ | refine Qk rfl ?_ | refine Qb ?_ | refine Qc ?_ | refine Qi ?_ | refine Qj ?_ | refine Qf (cR) ?_ | refine Qf (cN) ?_ | with_reducible (first | refine Qm ?_ | refine Qn ?_ | refine Qo ?_ | refine Qp ?_ | refine WB.nt ?_ | refine WB.nf ?_ | refine WB.dec (fun h => ?_) (fun h => ?_) | refine WB.ndec (fun h => ?_) (fun h => ?_)) | refine WB.mk (fun h => ?_) (fun h => ?_)) <;> conv => whnf)
          refine WCall.of (CallOk.mapHere Hs rfl (show 1 < Pos.nat (.i (.o .h)) from by decide) (fun γ w => .cons (.pu pul1_im (by simp [Pu, PuL, pu_wk6, pu_moD])) (.cons (.fn (.cons (.ag (.app (.pu pul1_im (wkQ_pu B)) rfl (.cons .mpI .nil))) .nil) .nil) .nil))) ?_; conv => whnf
          repeat' first | ((first | with_reducible (first | apply Qt | apply Qu) | refine Qa rfl ?_ | refine Qk rfl ?_ | refine Qb ?_ | refine Qc ?_ | refine Qi ?_ | refine Qj ?_ | with_reducible (first | refine Qm ?_ | refine Qn ?_ | refine Qo ?_ | refine Qp ?_ | refine WB.nt ?_ | refine WB.nf ?_ | refine WB.dec (fun h => ?_) (fun h => ?_) | refine WB.ndec (fun h => ?_) (fun h => ?_)) | refine WB.mk (fun h => ?_) (fun h => ?_)) <;> conv => whnf)
          refine WSt.mupG pt_key (vD := boD) (w := mpt (mo1 B Q)) (n := (stp B Q).any (canT B k)) (M := M1) rfl rfl rfl rfl hw hM1.wf (fun M2 h1 _ _ => ?_); conv => whnf
          repeat' first | ((first | with_reducible (first | apply Qt | apply Qu) | refine Qa rfl ?_ | refine Qk rfl ?_ | refine Qb ?_ | refine Qc ?_ | refine Qi ?_ | refine Qj ?_ | with_reducible (first | refine Qm ?_ | refine Qn ?_ | refine Qo ?_ | refine Qp ?_ | refine WB.nt ?_ | refine WB.nf ?_ | refine WB.dec (fun h => ?_) (fun h => ?_) | refine WB.ndec (fun h => ?_) (fun h => ?_)) | refine WB.mk (fun h => ?_) (fun h => ?_)) <;> conv => whnf)
          refine ⟨_, _, ⟨M2, hM1.put V hQ hk hw (by rw [hcan]; exact h1), rfl, rfl⟩, ⟨.inr rfl, ⟨_, rfl, by rw [hcan]; exact .pu trivial⟩, Shr.kp ?_ (mapP_kp M2)⟩⟩
          show T.le (T.n .e (some (.map (mapL M2))) .e : T Ev.C) _
          refine T.le_some (T.le_e _) rfl (T.le_e _))
    exact ⟨M', hM', Hc⟩
end Go.Ev
namespace Go.Ev
open Go.Proofs
set_option maxRecDepth 100000
def hasB (B : Bk) : Bool := canT B B.ls.length []
theorem open_bk (B : Bk) (d : D) : PureF Try.prog p105.ix [.ag [.i .i64 B.n, .i .i64 B.coin, .i .i64 B.box, .lst 3 (rows lnD B.ls), .lst 3 (rows ctD B.cs), d]] (.ag (moD (mo1 B []))) :=
  (j_opening B.n B.coin B.box B.ls B.cs []).sub (wk_any trivial)
theorem j_hasTruth {B : Bk} (V : VB B) (M : Memo) (hM : MOk B M) : ∃ M', MOk B M' ∧ CallOk Try.prog p94.ix [.ag (wkQ B ++ [.mp .h])] (mapP M) (.o .h) none (.b (hasB B)) (mapP M') (.o .h) none := by
  have cO := open_bk B (.mp .h)
  obtain ⟨M1, hM1, Hc⟩ := j_canBe V B.ls.length M hM [] (okT.nil B) (by simp)
  obtain ⟨v, ob', ⟨M', hM', rfl, rfl⟩, Hc⟩ := CallOk.runE (Φ := fun v ob' => ∃ M', MOk B M' ∧ v = .b (hasB B) ∧ ob' = mapP M') (ob := mapP M) (nx := .o .h) (nx' := .o .h) (ds := [.ag (wkQ B ++ [.mp .h])]) fn93 (by simp) (Nat.le_refl _) (by
    unfold wkQ
    conv => whnf
    repeat' first | ((first | with_reducible (first | apply Qt | apply Qu) | refine Qa rfl ?_ | refine Qk rfl ?_ | refine Qb ?_ | refine Qc ?_ | refine Qi ?_ | refine Qj ?_ | refine Qf (cO) ?_) <;> conv => whnf)
    refine WCall.of (CallOk.mapHere Hc rfl (show 1 < Pos.nat (.i .h) from by decide) (fun γ w => .cons (.ag (.app (.pu pul1_im (wkQ_pu B)) rfl (.cons .mpI .nil))) (.cons (.ag (.pu pul1_im (pu_moD _))) .nil))) ?_; conv => whnf
    repeat' first | ((first | with_reducible (first | apply Qt | apply Qu) | refine Qa rfl ?_ | refine Qk rfl ?_ | refine Qb ?_ | refine Qc ?_ | refine Qi ?_ | refine Qj ?_) <;> conv => whnf)
    refine ⟨_, _, ⟨M1, hM1, rfl, rfl⟩, ⟨.inr rfl, ⟨_, rfl, .pu trivial⟩, Shr.kp ?_ (mapP_kp M1)⟩⟩
    show T.le (T.n .e (some (.map (mapL M1))) .e : T Ev.C) _
    refine T.le_some (T.le_e _) rfl (T.le_e _))
  exact ⟨M', hM', Hc⟩
theorem j_beginM (B : Bk) : CallOk Try.prog p75.ix [.ag (wkQ B)] .e .h none (.ag (wkQ B ++ [.mp .h])) (mapP []) (.o .h) none := by
  have Hc : CallOk Try.prog p75.ix [.ag (wkQ B)] .e .h none (.ag (wkQ B ++ [.mp (.i .h)])) (.n .e none (.n .e (some (.map [])) .e)) (.o (.o .h)) none := by
    refine CallOk.run fn74 (by simp) (by simp [Pos.nat]) ?_
    unfold wkQ
    conv => whnf
    repeat' first | ((first | with_reducible (first | apply Qt | apply Qu) | refine Qa rfl ?_ | refine Qk rfl ?_ | refine Qb ?_ | refine Qc ?_ | refine Qi ?_ | refine Qj ?_) <;> conv => whnf)
    refine ⟨.inr rfl, ⟨_, rfl, .ag ?_⟩, ?_⟩
    · repeat' first | exact FzL.nil | refine FzL.cons ?_ ?_
      all_goals first
        | exact .pu trivial
        | exact .pu (pu_ln _)
        | exact .pu (pu_ct _)
        | exact .kmp (by simp [Pos.nat])
    · refine Shr.kp ?_ ?_
      · repeat' first | exact T.le_e _ | refine T.le_some ?_ rfl ?_ | refine T.le_none ?_ ?_
      · show TAll (fun id c => id.nat < 4 ∧ KpC 4 c) _
        repeat' first | exact TAll.e | refine TAll.some ?_ ?_ ?_ | refine TAll.none ?_ ?_
        exact ⟨by simp [Pos.nat], fun e h => by cases h⟩
  exact Hc.toH (a := .i .h) rfl (fun e h => by cases h) fun γ γ' w h1 h2 him => .ag (.app (.pu him (wkQ_pu B)) rfl (.cons (.mpH h1 h2) .nil))
def sE (n coin box : Int) (ls : List Ln) (cs : List Ct) (t : Bool) : Int :=
  if faultT n coin box ls cs ≠ 0 then faultT n coin box ls cs else bif !t then 2 else bif !hasB (B5 n coin box ls cs) then 11 else 0
end Go.Ev