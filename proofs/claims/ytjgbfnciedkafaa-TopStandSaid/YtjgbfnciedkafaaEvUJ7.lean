import Derived.Test.YtjgbfnciedkafaaEvUJ2
import Derived.Test.YtjgbfnciedkafaaEvUIt
import Derived.Test.YtjgbfnciedkafaaEvUJs
set_option linter.all false
set_option maxHeartbeats 8000000
noncomputable section
namespace Go.Ev
open Go.Proofs
set_option maxRecDepth 100000
theorem BV (a b : Int) (h1 : -10 <= b - a) (h2 : b - a <= 10) : PureF Try.prog p117.ix [.ag [.i .i64 a, .i .i64 b]] (.i .i64 (b - a + 1)) := by
 refine PureF.run SY (by simp) (by simp [aO, eB, Pu, aJ, aB, aE]) ?_; conv => whnf
 refine Qg ?_
 exact Fin.i rfl rfl
def eM (l : Ln) : Int := if l.k = 0 then 1 else l.k
def nV (l : Ln) : Int := if l.k = 0 then 2 else l.k
def gN (l : Ln) : Int := if l.c = -1 then 0 else l.c
def nH (n : Int) (l : Ln) : Int := if l.c = -1 then n - 1 else l.c
def kT (l : Ln) : Int := if l.t = -1 then 0 else l.t
def oM (n : Int) (l : Ln) : Int := if l.t = -1 then n - 1 else l.t
theorem Id (l : Ln) : nV l - eM l + 1 = BO l := by unfold nV eM BO; split <;> omega
theorem Hk (n : Int) (l : Ln) : nH n l - gN l + 1 = BM n l := by unfold nH gN BM; split <;> omega
theorem Gg (n : Int) (l : Ln) : oM n l - kT l + 1 = BJ n l := by unfold oM kT BJ; split <;> omega
theorem MN {n : Int} (hn : 1 <= n /\ n <= 4) (l : Ln) : (1 <= BO l /\ BO l <= 2) /\ (1 <= BM n l /\ BM n l <= 4) /\ (1 <= BJ n l /\ BJ n l <= 4) := by
 unfold BO BM BJ
 refine ⟨?_, ?_, ?_⟩ <;> split <;> omega
theorem pM (n coin box : Int) (ls : List Ln) (cs : List Ct) (hn : 1 <= n /\ n <= 4) (l : Ln) : PureF Try.prog p116.ix [.ag [.i .i64 n, .i .i64 coin, .i .i64 box, .lst 3 (aD aM ls), .lst 3 (aD dZ cs), .any], .ag [.i .i64 l.k, .i .i64 l.c, .i .i64 l.t]] (.tp [.ag [.i .i64 (eM l), .i .i64 (nV l)], .ag [.i .i64 (gN l), .i .i64 (nH n l)], .ag [.i .i64 (kT l), .i .i64 (oM n l)]]) := by
 refine PureF.run PW (by simp) (by simp [aO, eB, Pu, aJ, aB, aE]) ?_; conv => whnf
 unfold eM nV gN nH kT oM
 by_cases h1 : l.k = 0 <;> by_cases h2 : l.c = -1 <;> by_cases h3 : l.t = -1
 all_goals
  repeat' ((first | refine Qw ?_ | refine Qd (fun h => ?_) (fun h => ?_)) <;> conv => whnf)
  refine ⟨.inr rfl, _, rfl, ?_⟩
  simp only [h1, h2, h3, if_true, if_false]
  refine .tp (.cons (.ag (.cons ?_ (.cons ?_ .nil))) (.cons (.ag (.cons ?_ (.cons ?_ .nil))) (.cons (.ag (.cons ?_ (.cons ?_ .nil))) .nil)))
  all_goals exact .pu trivial
theorem vW (n coin box : Int) (ls : List Ln) (cs : List Ct) (hn : 1 <= n /\ n <= 4) (hl : ls.length <= 8) : PureF Try.prog p82.ix [.ag [.i .i64 n, .i .i64 coin, .i .i64 box, .lst 3 (aD aM ls), .lst 3 (aD dZ cs), .any]] (.i .i64 (eP n ls)) := by
 have e1 := aC aM ls
 refine PureF.run UQ (by simp) (by simp [aO, eB, Pu, aJ, aB, aE]) ?_; conv => whnf
 refine Qg ?_
 refine Rn.loop (fun j : Nat => ⟨(.n (.n (.n .e (some (.i .i64 (eP n (ls.take j)))) (.n .e (some (.lst 3 (aD aM ls))) .e)) (some (.pt .h 0 0)) (.n .e none (.n .e (some (.i .i64 (j : Int))) .e))) none (.n (.n .e none (.n .e (some (.i .i64 ((aD aM ls).length : Int))) .e)) none .e)), (.n .e (some (.cells false [.o (.i .i64 n) 0, .o (.i .i64 coin) 0, .o (.i .i64 box) 0, .o (.lst 3 (aD aM ls)) 0, .o (.lst 3 (aD dZ cs)) 0, .o .any 0] 1)) .e), .o .h, none⟩) (fun j => j <= ls.length) (fun j => ls.length - j) 0 ?_ ?_ ?_
 ·(first | (refine X.le.mk ?_ ?_ (Nat.le_refl _) rfl rfl) | skip) <;> (repeat' first | exact T.le_e _ | refine T.le_some ?_ ?_ ?_ | refine T.le_none ?_ ?_ | rfl)
 ·exact Nat.zero_le _
 intro j hj
 have hj : j <= ls.length := hj
 conv => whnf
 refine Qg ?_
 refine WB.dec (fun h => ?_) (fun h => ?_) <;> conv => whnf
 ·have hlt : j < ls.length := by omega
  have hp := (fD hn.1 hn.2 (ls.take j)).2
  have hb : eP n (ls.take j) <= 1 * 32 ^ (ls.take j).length := As hn.1 hn.2 (ls.take j) 1 1 (by omega) (by omega)
  have hpw : (1 : Int) * 32 ^ (ls.take j).length <= 32 ^ 8 := by
   rw [List.length_take, Nat.min_eq_left hj, Int.one_mul]
   exact_mod_cast Nat.pow_le_pow_right (show 0 < 32 by decide) (show j <= 8 by omega)
  have hb : eP n (ls.take j) <= 1099511627776 := by
   have : (32 : Int) ^ 8 = 1099511627776 := by decide
   omega
  obtain ⟨s1, s2, s3⟩ := MN hn (ls.getD j default)
  have z1 := Id (ls.getD j default)
  have z2 := Hk n (ls.getD j default)
  have z3 := Gg n (ls.getD j default)
  have hs : eP n (ls.take (j + 1)) = eP n (ls.take j) * (BO (ls.getD j default) * BM n (ls.getD j default) * BJ n (ls.getD j default)) := by
   rw [aL (d := default) hlt]
   unfold eP
   rw [List.foldl_append]
   rfl
  have m1 : 1 <= BO (ls.getD j default) * BM n (ls.getD j default) /\ BO (ls.getD j default) * BM n (ls.getD j default) <= 8 := by
   constructor
   ·exact Int.le_trans (by omega) (Int.mul_le_mul s1.1 s2.1 (by omega) (by omega))
   ·exact Int.le_trans (Int.mul_le_mul s1.2 s2.2 (by omega) (by omega)) (by omega)
  have m2 := mD hn.1 hn.2 (ls.getD j default)
  unfold jX at m2
  have m3 : 1 <= eP n (ls.take j) * (BO (ls.getD j default) * BM n (ls.getD j default) * BJ n (ls.getD j default)) /\ eP n (ls.take j) * (BO (ls.getD j default) * BM n (ls.getD j default) * BJ n (ls.getD j default)) <= 1099511627776 * 32 := by
   constructor
   ·exact Int.le_trans (by omega) (Int.mul_le_mul hp m2.1 (by omega) (by omega))
   ·exact Int.mul_le_mul hb m2.2 (by omega) (by omega)
  repeat' ((first | refine Qz ?_ | refine Qf (pM n coin box ls cs hn (ls.getD j default)) ?_ | refine Qf (BV _ _ (by omega) (by omega)) ?_) <;> conv => whnf)
  simp only [z1, z2, z3]
  repeat' ((first | refine Qz ?_ | refine Qf (pM n coin box ls cs hn (ls.getD j default)) ?_ | refine Qf (BV _ _ (by omega) (by omega)) ?_) <;> conv => whnf)
  simp only [z3]
  repeat' ((first | refine Qz ?_ | refine Qf (pM n coin box ls cs hn (ls.getD j default)) ?_ | refine Qf (BV _ _ (by omega) (by omega)) ?_) <;> conv => whnf)
  refine Again.to (j + 1) (by omega) (by omega) (Nat.le_refl _) ?_
  rw [hs]
  (refine Shr.of ?_ ?_ rfl rfl) <;> (repeat' first | exact Rel.e | refine Rel.some ?_ ?_ ?_ | refine Rel.none ?_ ?_) <;> (try first | exact Fx | (refine Ro (ShC.same ?_); (repeat' first | exact ShC.nl | refine ShC.cn ?_ ?_) <;> exact Fx))
 ·refine Qg ?_
  exact Fin.i rfl (by rw [List.take_of_length_le (by omega)])
theorem mH (n coin box : Int) (ls : List Ln) (cs : List Ct) : PureF Try.prog p28.ix [.ag [.i .i64 n, .i .i64 coin, .i .i64 box, .lst 3 (aD aM ls), .lst 3 (aD dZ cs)]] (.i .i64 (aS n coin box ls cs)) := by
 have e1 := aC aM ls
 have e2 := aC dZ cs
 refine PureF.run Uc (by simp) (by simp [aO, eB, Pu, aJ, aB, aE]) ?_; conv => whnf
 by_cases hL : 8 < ls.length \/ 4 < cs.length
 ·repeat' ((first | refine Qw ?_ | refine Qf (pZ n coin box ls cs) ?_ | refine Qd (fun h => ?_) (fun h => ?_)) <;> conv => whnf)
  all_goals first
   | (exfalso; omega)
   | exact Fin.i rfl (by unfold aS; rw [if_pos hL])
 ·by_cases hv : kU n coin box ls cs = true
  ·have hn : 1 <= n /\ n <= 4 := by
    unfold kU at hv
    simp only [Bool.and_eq_true] at hv
    exact aP.1 hv.1
   have c1 := xE n coin box ls cs (by omega) (by omega)
   rw [hv] at c1
   have c2 := vW n coin box ls cs hn (by omega)
   have hm := (fD hn.1 hn.2 ls).1
   repeat' ((first | refine Qw ?_ | refine Qf (pZ n coin box ls cs) ?_ | refine Qf c1 ?_ | refine Qf c2 ?_ | refine Qd (fun h => ?_) (fun h => ?_)) <;> conv => whnf)
   all_goals first
    | (exfalso; omega)
    | exact Fin.i rfl (by unfold aS; rw [if_neg hL, if_pos hv]; first | rw [if_pos (by omega)] | rw [if_neg (by omega)])
  ·have hv' : kU n coin box ls cs = false := by simpa using hv
   have c1 := xE n coin box ls cs (by omega) (by omega)
   rw [hv'] at c1
   repeat' ((first | refine Qw ?_ | refine Qf (pZ n coin box ls cs) ?_ | refine Qf c1 ?_ | refine Qd (fun h => ?_) (fun h => ?_)) <;> conv => whnf)
   all_goals first
    | (exfalso; omega)
    | exact Fin.i rfl (by unfold aS; rw [if_neg hL, if_neg hv])
theorem Ss (m : Mo) (c : Ct) : PureF Try.prog p111.ix [.ag (dW m), .ag [.i .i64 c.a, .i .i64 c.lo, .i .i64 c.hi]] (.b (!decide (c.a = m.n) || gS m.box c.lo c.hi)) := by
 unfold dW
 refine PureF.run Ty (by simp) (by simp [aO, eB, Pu, aJ, aB, aE]) ?_; conv => whnf
 by_cases h : c.a = m.n
 ·repeat' ((first | refine Qw ?_ | refine Qf (Bo _ _ _) ?_ | refine Qd (fun h => ?_) (fun h => ?_)) <;> conv => whnf)
  all_goals exact Fin.b rfl (by simp [h])
 ·repeat' ((first | refine Qw ?_ | refine Qf (Bo _ _ _) ?_ | refine Qd (fun h => ?_) (fun h => ?_)) <;> conv => whnf)
  all_goals exact Fin.b rfl (by simp [h])
theorem gL (m : Mo) : PureF Try.prog p77.ix [.ag (dW m)] (.i .i64 m.box) := by
 unfold dW
 refine PureF.run TU (by simp) (by simp [aO, eB, Pu, aJ, aB, aE]) ?_; conv => whnf
 refine Qg ?_
 exact Fin.i rfl rfl
theorem iA (m : Mo) : PureF Try.prog p78.ix [.ag (dW m)] (.i .i64 m.mix) := by
 unfold dW
 refine PureF.run VP (by simp) (by simp [aO, eB, Pu, aJ, aB, aE]) ?_; conv => whnf
 refine Qg ?_
 exact Fin.i rfl rfl
theorem rS (n coin box : Int) (ls : List Ln) (cs : List Ct) (T : List Ln) : PureF Try.prog p105.ix [.ag [.i .i64 n, .i .i64 coin, .i .i64 box, .lst 3 (aD aM ls), .lst 3 (aD dZ cs), .any]] (.ag (dW (fC box coin T 0))) := by
 refine PureF.run Tq (by simp) (by simp [aO, eB, Pu, aJ, aB, aE]) ?_; conv => whnf
 refine Qg ?_
 refine ⟨.inr rfl, _, rfl, .ag ?_⟩
 unfold dW
 repeat' first | exact FzL.nil | refine FzL.cons ?_ ?_
 all_goals exact Fz.i rfl
open Go.RowKit (Below Grown)
open Classical in
def jD (nx : Pos) (ρ : Pos -> Pos) (γ : Gh) : Gh := ⟨fun j => if j.nat < nx.nat then γ.cur (ρ j) else 0, fun j => γ.β (ρ j), γ.im⟩
def vR (τ : Pos -> Option Pos) (γ γ' : Gh) : Gh := ⟨fun id => match τ id with | some j => γ'.cur j | none => γ.cur id, fun id => match τ id with | some j => γ'.β j | none => γ.β id, γ'.im⟩
structure Ren (nx : Pos) (ρ : Pos -> Pos) (τ : Pos -> Option Pos) : Prop where
 a : ∀ j : Pos, j.nat < nx.nat -> τ (ρ j) = some j
 b : ∀ id j : Pos, τ id = some j -> j.nat < nx.nat /\ ρ j = id
section
variable {nx : Pos} {ρ : Pos -> Pos} {τ : Pos -> Option Pos} {γ γ' : Gh} {w w' : World}
theorem eH {j : Pos} (h : j.nat < nx.nat) : (jD nx ρ γ).cur j = γ.cur (ρ j) := by show (if _ then _ else _) = _; rw [if_pos h]
theorem iJ {j : Pos} (h : ¬ j.nat < nx.nat) : (jD nx ρ γ).cur j = 0 := by show (if _ then _ else _) = _; rw [if_neg h]
theorem fU {j : Pos} {st : Nat} (h : st < (jD nx ρ γ).cur j) : j.nat < nx.nat /\ st < γ.cur (ρ j) := by
 by_cases hj : j.nat < nx.nat
 ·rw [eH hj] at h; exact ⟨hj, h⟩
 ·rw [iJ hj] at h; exact absurd h (Nat.not_lt_zero _)
theorem lA : ∀ b, γ.im b -> (jD nx ρ γ).im b := fun _ h => h
theorem yS : ∀ b, γ'.im b -> (vR τ γ γ').im b := fun _ h => h
theorem eN {id j : Pos} (h : τ id = some j) : (vR τ γ γ').cur id = γ'.cur j := by show (match τ id with | some j => _ | none => _) = _; rw [h]
theorem dM {id : Pos} (h : τ id = none) : (vR τ γ γ').cur id = γ.cur id := by show (match τ id with | some j => _ | none => _) = _; rw [h]
theorem gX {id j : Pos} (h : τ id = some j) : (vR τ γ γ').β id = γ'.β j := by show (match τ id with | some j => _ | none => _) = _; rw [h]
theorem nA {id : Pos} (h : τ id = none) : (vR τ γ γ').β id = γ.β id := by show (match τ id with | some j => _ | none => _) = _; rw [h]
theorem Ren.inj (R : Ren nx ρ τ) {i j : Pos} (hi : i.nat < nx.nat) (hj : j.nat < nx.nat) (h : ρ i = ρ j) : i = j := by
 have h1 := R.a i hi
 rw [h, R.a j hj] at h1
 exact (Option.some.inj h1).symm
theorem pD (R : Ren nx ρ τ) (gh : GH γ w) : GH (jD nx ρ γ) w :=
 ⟨fun id st hst => gh.ob _ st (fU hst).2, fun id st id' st' hst hst' he => by
  obtain ⟨h1, h2⟩ := gh.inj _ st _ st' (fU hst).2 (fU hst').2 he
  exact ⟨R.inj (fU hst).1 (fU hst').1 h1, h2⟩, fun b hb => ⟨(gh.im b hb).1, fun id st hst => (gh.im b hb).2 _ st (fU hst).2⟩, gh.gl.im fun _ h => h⟩
theorem Jq (R : Ren nx ρ τ) {S : Pos -> Prop} (gh : GH γ w) (F : Fr S (jD nx ρ γ) γ' w w') {j : Pos} {st : Nat} (hj : j.nat < nx.nat) (hst : st < γ'.cur j) : w.heap.size <= (γ'.β j st).1 \/ ∃ jA, jA < γ.cur (ρ j) /\ (γ'.β j st).1 = (γ.β (ρ j) jA).1 := by
 by_cases h : st < (jD nx ρ γ).cur j
 ·rw [F.up.β j st h]
  exact .inr ⟨st, (fU h).2, rfl⟩
 ·rcases F.new j st (Nat.not_lt.1 h) hst with h1 | ⟨jA, h1, h2⟩
  ·exact .inl h1
  ·exact .inr ⟨jA, (fU h1).2, h2⟩
theorem Ah (R : Ren nx ρ τ) {S : Pos -> Prop} (gh : GH γ w) (gh' : GH γ' w') (F : Fr S (jD nx ρ γ) γ' w w') : GH (vR τ γ γ') w' := by
 have mix : ∀ id j st id' st', τ id = some j -> τ id' = none -> st < γ'.cur j -> st' < γ.cur id' -> (γ'.β j st).1 ≠ (γ.β id' st').1 := fun id j st id' st' h1 h2 h3 h4 e => by
  obtain ⟨hj, hr⟩ := R.b id j h1
  rcases Jq R gh F hj h3 with h5 | ⟨jA, h5, h6⟩
  ·have := gh.ob id' st' h4; omega
  ·obtain ⟨h7, _⟩ := gh.inj _ jA id' st' h5 h4 (h6.symm.trans e)
   rw [<- h7, hr, h1] at h2
   cases h2
 refine ⟨fun id st hst => ?_, fun id st id' st' hst hst' he => ?_, fun b hb => ?_, gh'.gl.im fun _ h => h⟩
 ·cases ht : τ id with
  | some j => rw [eN ht] at hst; rw [gX ht]; exact gh'.ob j st hst
  | none => rw [dM ht] at hst; rw [nA ht]; exact Nat.lt_of_lt_of_le (gh.ob id st hst) F.size
 ·cases ht : τ id with
  | some j =>
    rw [eN ht] at hst
    rw [gX ht] at he ⊢
    cases ht' : τ id' with
    | some j' =>
      rw [eN ht'] at hst'
      rw [gX ht'] at he ⊢
      obtain ⟨h1, h2⟩ := gh'.inj j st j' st' hst hst' he
      exact ⟨by rw [<- (R.b id j ht).2, <- (R.b id' j' ht').2, h1], h2⟩
    | none =>
      rw [dM ht'] at hst'
      rw [nA ht'] at he
      exact absurd he (mix id j st id' st' ht ht' hst hst')
  | none =>
    rw [dM ht] at hst
    rw [nA ht] at he ⊢
    cases ht' : τ id' with
    | some j' =>
      rw [eN ht'] at hst'
      rw [gX ht'] at he
      exact absurd he.symm (mix id' j' st' id st ht' ht hst' hst)
    | none =>
      rw [dM ht'] at hst'
      rw [nA ht'] at he ⊢
      exact gh.inj id st id' st' hst hst' he
 ·refine ⟨(gh'.im b hb).1, fun id st hst => ?_⟩
  cases ht : τ id with
  | some j => rw [eN ht] at hst; rw [gX ht]; exact (gh'.im b hb).2 j st hst
  | none =>
    rw [dM ht] at hst; rw [nA ht]
    intro e
    have hlt := gh.ob id st hst
    rw [e] at hlt
    exact (gh.im b (F.imn b hb hlt)).2 id st hst e
theorem HV (R : Ren nx ρ τ) {S : Pos -> Prop} (F : Fr S (jD nx ρ γ) γ' w w') : Up γ (vR τ γ γ') w w' := by
 refine ⟨fun id => ?_, fun id st hst => ?_, F.up.sh, F.up.im⟩
 ·cases ht : τ id with
  | some j =>
    obtain ⟨hj, hr⟩ := R.b id j ht
    have := F.up.cur j
    rw [eH hj, hr] at this
    rw [eN ht]; exact this
  | none => rw [dM ht]; exact Nat.le_refl _
 ·cases ht : τ id with
  | some j =>
    obtain ⟨hj, hr⟩ := R.b id j ht
    have := F.up.β j st (by rw [eH hj, hr]; exact hst)
    rw [gX ht, this]
    show γ.β (ρ j) st = _
    rw [hr]
  | none => rw [nA ht]
theorem zY (R : Ren nx ρ τ) {S W : Pos -> Prop} (hW : ∀ id j, τ id = some j -> W id) (F : Fr S (jD nx ρ γ) γ' w w') : Fr W γ (vR τ γ γ') w w' := by
 refine ⟨HV R F, fun id hn => ?_, fun b hb hn => F.blk b hb fun j st _ hst e => ?_, fun id st h1 h2 => ?_, F.imn, F.lp, F.size, F.os, F.tape, F.output, F.fz⟩
 ·cases ht : τ id with
  | some j => exact absurd (hW id j ht) hn
  | none => exact dM ht
 ·obtain ⟨hj, hst⟩ := fU hst
  exact hn (ρ j) st (hW _ j (R.a j hj)) hst e
 ·cases ht : τ id with
  | some j =>
    obtain ⟨hj, hr⟩ := R.b id j ht
    rw [eN ht] at h2
    rw [gX ht]
    rcases F.new j st (by rw [eH hj, hr]; exact h1) h2 with h3 | ⟨jA, h3, h4⟩
    ·exact .inl h3
    ·have h3 := (fU h3).2
     rw [hr] at h3
     refine .inr ⟨jA, h3, ?_⟩
     rw [h4]
     show (γ.β (ρ j) jA).1 = _
     rw [hr]
  | none => rw [dM ht] at h2; omega
theorem qF (R : Ren nx ρ τ) {P : Program} {S : Pos -> Prop} (gh : GH γ w) (F : Fr S (jD nx ρ γ) γ' w w') {id : Pos} {c : C} (ht : τ id = none) (H : HoldsO P γ w id c) : HoldsO P (vR τ γ γ') w' id c :=
 HoldsO.mono (HV R F) (dM ht) (fun st hst => F.blk _ (gh.ob id st hst) fun j st' _ hst' e => by
  obtain ⟨hj, hst'⟩ := fU hst'
  obtain ⟨h1, _⟩ := gh.inj _ st' id st hst' hst e
  rw [<- h1, R.a j hj] at ht
  cases ht) H
end
section
variable {γ γ' : Gh} {w : World} {n : Nat}
mutual
theorem DV.kp (him : ∀ b, γ.im b -> γ'.im b) (hc : ∀ id : Pos, id.nat < n -> γ'.cur id = γ.cur id /\ γ'.β id = γ.β id) : ∀ (d : D) (v : Value), Kp n d -> DV γ w d v -> DV γ' w d v
 | .pt id off st, v, p, H => by
   unfold Kp at p
   obtain ⟨h1, h2⟩ := hc id p
   unfold DV at *
   rw [h1, h2]; exact H
 | .sl id off len st z, v, p, H => by
   unfold Kp at p
   obtain ⟨h1, h2⟩ := hc id p
   unfold DV at *
   rw [h1, h2]; exact H
 | .mp id, v, p, H => by
   unfold Kp at p
   obtain ⟨h1, h2⟩ := hc id p
   unfold DV at *
   rw [h1, h2]; exact H
 | .yl id, v, p, H => by
   unfold Kp at p
   obtain ⟨h1, h2⟩ := hc id p
   unfold DV at *
   rw [h1, h2]; exact H
 | .ag cs, _, p, H => by
   unfold Kp at p
   unfold DV at *
   obtain ⟨vs, h1, h2, h3⟩ := H
   exact ⟨vs, h1, DVL.kp him hc cs _ p h2, h3⟩
 | .tp cs, _, p, H => by
   unfold Kp at p
   unfold DV at *
   obtain ⟨vs, h1, h2⟩ := H
   exact ⟨vs, h1, DVL.kp him hc cs _ p h2⟩
 | .fn _ x y, _, p, H => by
   unfold Kp at p
   unfold DV at *
   obtain ⟨vx, vy, h1, h2, h3⟩ := H
   exact ⟨vx, vy, h1, DVL.kp him hc x _ p.1 h2, DVL.kp him hc y _ p.2 h3⟩
 | .any, _, p, H => by unfold Kp at p; exact DV.pu him _ _ p H
 | .b _, _, p, H => by unfold Kp at p; exact DV.pu him _ _ p H
 | .i _ _, _, p, H => by unfold Kp at p; exact DV.pu him _ _ p H
 | .s _, _, p, H => by unfold Kp at p; exact DV.pu him _ _ p H
 | .np, _, p, H => by unfold Kp at p; exact DV.pu him _ _ p H
 | .nf, _, p, H => by unfold Kp at p; exact DV.pu him _ _ p H
 | .ni, _, p, H => by unfold Kp at p; exact DV.pu him _ _ p H
 | .nm, _, p, H => by unfold Kp at p; exact DV.pu him _ _ p H
 | .ns, _, p, H => by unfold Kp at p; exact DV.pu him _ _ p H
 | .em, _, p, H => by unfold Kp at p; exact DV.pu him _ _ p H
 | .ifc _ _, _, p, H => by unfold Kp at p; exact DV.pu him _ _ p H
 | .lst _ _, _, p, H => by unfold Kp at p; exact DV.pu him _ _ p H
 | .pl _ _, _, p, H => by unfold Kp at p; exact DV.pu him _ _ p H
theorem DVL.kp (him : ∀ b, γ.im b -> γ'.im b) (hc : ∀ id : Pos, id.nat < n -> γ'.cur id = γ.cur id /\ γ'.β id = γ.β id) : ∀ (ds : List D) (vs : List Value), KpL n ds -> DVL γ w ds vs -> DVL γ' w ds vs
 | [], _, _, H => by unfold DVL at *; exact H
 | d :: ds, _, p, H => by
   unfold KpL at p
   unfold DVL at *
   obtain ⟨v, r, h1, h2, h3⟩ := H
   exact ⟨v, r, h1, DV.kp him hc d v p.1 h2, DVL.kp him hc ds r p.2 h3⟩
end
theorem HoldsO.kp {P : Program} (him : ∀ b, γ.im b -> γ'.im b) (hc : ∀ id : Pos, id.nat < n -> γ'.cur id = γ.cur id /\ γ'.β id = γ.β id) {id : Pos} (hid : id.nat < n) : ∀ {c : C}, KpC n c -> HoldsO P γ w id c -> HoldsO P γ' w id c
 | .cells ro cs cur, k, H => by
   obtain ⟨h0, h1, h2⟩ := H
   obtain ⟨e1, e2⟩ := hc id hid
   refine ⟨h0, e1.trans h1, fun st hst => ?_⟩
   obtain ⟨vs, e, fr, h3, h4, h5⟩ := h2 st hst
   rw [e2]
   exact ⟨vs, e, fr, h3, h4, fun p c hp hh hd => by
    obtain ⟨u, h6, h7, h8⟩ := h5 p c hp hh hd
    exact ⟨u, h6, DV.kp him hc _ _ (k c (List.mem_of_getElem? hp)) h7, h8⟩⟩
 | .map es, k, H => by
   obtain ⟨h1, en, cl, h2, h3, h4⟩ := H
   obtain ⟨e1, e2⟩ := hc id hid
   refine ⟨e1.trans h1, en, cl, by rw [e2]; exact h2, h3, fun i e f he hf => ?_⟩
   obtain ⟨k1, k2⟩ := k e (List.mem_of_getElem? he)
   exact ⟨DV.kp him hc _ _ k1 (h4 i e f he hf).1, DV.kp him hc _ _ k2 (h4 i e f he hf).2⟩
 | .lp sl ps nt asg body st jump, k, H => by
   obtain ⟨h1, l, h2, h3, h4, h5, h6⟩ := H
   obtain ⟨e1, e2⟩ := hc id hid
   refine ⟨e1.trans h1, l, by rw [e2]; exact h2, h3, h4, fun s d hs => ⟨(h5 s d hs).1, DV.kp him hc _ _ (k s d hs) (h5 s d hs).2⟩, h6⟩
 | .hole, _, H => (hc id hid).1.trans H
end
open Classical in
def uE (nx : Pos) (id : Pos) : Option Pos := if id.nat < nx.nat then some id else none
theorem pP {nx id : Pos} (h : id.nat < nx.nat) : uE nx id = some id := by unfold uE; rw [if_pos h]
theorem Ai {nx id : Pos} (h : ¬ id.nat < nx.nat) : uE nx id = none := by unfold uE; rw [if_neg h]
theorem Ren.id (nx : Pos) : Ren nx (fun j => j) (uE nx) := ⟨fun j h => pP h, fun id j h => by
 by_cases hid : id.nat < nx.nat
 ·rw [pP hid] at h; cases h; exact ⟨hid, rfl⟩
 ·rw [Ai hid] at h; cases h⟩
structure Beside (nx : Pos) (ob' obR obR' : T C) : Prop where
 lo : ∀ id c, id.nat < nx.nat -> obR'.get id = some c -> ob'.get id = some c
 hi : ∀ id : Pos, nx.nat <= id.nat -> obR'.get id = obR.get id
theorem JY {nx : Pos} {γ γ' : Gh} {w : World} (hz : ∀ id : Pos, nx.nat <= id.nat -> γ'.cur id = 0) : Up γ' (vR (uE nx) γ γ') w w := by
 refine ⟨fun id => ?_, fun id st hst => ?_, fun _ _ h => h, fun b hb => ⟨hb, fun _ h => h⟩⟩
 ·by_cases hid : id.nat < nx.nat
  ·rw [eN (pP hid)]; exact Nat.le_refl _
  ·rw [hz id (Nat.not_lt.1 hid)]; exact Nat.zero_le _
 ·by_cases hid : id.nat < nx.nat
  ·rw [gX (pP hid)]
  ·rw [hz id (Nat.not_lt.1 hid)] at hst; exact absurd hst (Nat.not_lt_zero _)
section
variable {P : Program} {nx nx2 : Pos} {ob ob' obR obR' : T C} {lg lg' : Option (T Bool)} {ds : List D} {v : D}
theorem xQ {so : Pos -> Prop} {γ γ' : Gh} {w w' : World} (hx : nx.nat <= nx2.nat) (hb : Beside nx ob' obR obR') (hw : ∀ id : Pos, id.nat < nx.nat -> wrtn lg' id) (gh : GH γ w) (hob : ∀ id c, so id -> obR.get id = some c -> HoldsO P γ w id c) (hnx : ∀ id : Pos, so id -> nx2.nat <= id.nat -> γ.cur id = 0)
 {S : Pos -> Prop} (gh' : GH γ' w') (F : Fr S (jD nx (fun j => j) γ) γ' w w') (ho : ∀ id c, ob'.get id = some c -> HoldsO P γ' w' id c) (hn : ∀ id : Pos, nx.nat <= id.nat -> γ'.cur id = 0) :
 GH (vR (uE nx) γ γ') w' /\ Fr (wrtn lg') γ (vR (uE nx) γ γ') w w' /\ (∀ d u, DV γ' w' d u -> DV (vR (uE nx) γ γ') w' d u) /\ (∀ id c, so id -> obR'.get id = some c -> HoldsO P (vR (uE nx) γ γ') w' id c) /\ ∀ id : Pos, so id -> nx2.nat <= id.nat -> (vR (uE nx) γ γ').cur id = 0 := by
 have R := Ren.id nx
 have U := JY (γ := γ) (w := w') hn
 refine ⟨Ah R gh gh' F, zY R (fun id j h => hw id (by obtain ⟨h1, h2⟩ := R.b id j h; exact h2 ▸ h1)) F, fun d u h => DV.mono U d u h, fun id c hid hc => ?_, fun id hid hle => ?_⟩
 ·by_cases h : id.nat < nx.nat
  ·exact HoldsO.mono U (eN (pP h)) (fun _ _ => rfl) (ho id c (hb.lo id c h hc))
  ·rw [hb.hi id (Nat.not_lt.1 h)] at hc
   exact qF R gh F (Ai h) (hob id c hid hc)
 ·have h : ¬ id.nat < nx.nat := by omega
  rw [dM (Ai h)]
  exact hnx id hid hle
theorem nD {γ : Gh} (id : Pos) (h : id.nat < nx.nat) : (jD nx (fun j => j) γ).cur id = γ.cur id /\ (jD nx (fun j => j) γ).β id = γ.β id := ⟨eH h, rfl⟩
theorem CallOk.frame {f : FuncId} (h : CallOk P f ds ob nx none v ob' nx none) (hle : T.le ob obR) (hk : KpO nx.nat ob) (hd : KpL nx.nat ds) (hb : Beside nx ob' obR obR') (hx : nx.nat <= nx2.nat) (hl : LgLe lg lg') (hw : ∀ id : Pos, id.nat < nx.nat -> wrtn lg' id) : CallOk P f ds obR nx2 lg v obR' nx2 lg' := by
 refine ⟨hl, Nat.le_refl _, fun id hn => hb.hi id (Nat.not_lt.1 fun h => hn (hw id h)), fun so hs γ args w gh hargs hob hnx => ?_⟩
 have hso : ∀ id : Pos, id.nat < nx.nat -> so id := fun id h => hs id (hw id h).tchd
 obtain ⟨c1, c2⟩ := h.ok (fun _ => True) (fun _ _ => trivial) (jD nx (fun j => j) γ) args w (pD (Ren.id nx) gh) (DVL.kp (lA (nx := nx) (ρ := fun j => j) (γ := γ)) nD _ _ hd hargs) (fun id c _ hc => HoldsO.kp (lA (nx := nx) (ρ := fun j => j) (γ := γ)) nD (hk id c hc).1 (hk id c hc).2 (hob id c (hso id (hk id c hc).1) (hle id c hc))) (fun id _ hid => iJ (Nat.not_lt.2 hid))
 refine ⟨c1, fun ro n Q hQ => c2 ro n Q fun γ' w' u gh' F hu ho hn => ?_⟩
 obtain ⟨k1, k2, k3, k4, k5⟩ := xQ (so := so) (ob' := ob') hx hb hw gh hob hnx gh' F (fun id c hc => ho id c trivial hc) (fun id hid => hn id trivial hid)
 exact hQ _ w' u k1 k2 (k3 _ _ hu) k4 k5
theorem RndOk.frame {id : Pos} (h : RndOk P id ds ob nx none v ob' nx none) (hid : id.nat < nx.nat) (hle : T.le ob obR) (hk : KpO nx.nat ob) (hd : KpL nx.nat ds) (hb : Beside nx ob' obR obR') (hx : nx.nat <= nx2.nat) (hl : LgLe lg lg') (hw : ∀ id : Pos, id.nat < nx.nat -> wrtn lg' id) : RndOk P id ds obR nx2 lg v obR' nx2 lg' := by
 refine ⟨hl, Nat.le_refl _, fun id hn => hb.hi id (Nat.not_lt.1 fun h => hn (hw id h)), fun so hs γ args w gh hargs hob hnx hcur => ?_⟩
 have hso : ∀ id : Pos, id.nat < nx.nat -> so id := fun id h => hs id (hw id h).tchd
 obtain ⟨fn, tmps, asg, body, c1, c2⟩ := h.ok (fun _ => True) (fun _ _ => trivial) (jD nx (fun j => j) γ) args w (pD (Ren.id nx) gh) (DVL.kp (lA (nx := nx) (ρ := fun j => j) (γ := γ)) nD _ _ hd hargs) (fun id c _ hc => HoldsO.kp (lA (nx := nx) (ρ := fun j => j) (γ := γ)) nD (hk id c hc).1 (hk id c hc).2 (hob id c (hso id (hk id c hc).1) (hle id c hc))) (fun id _ hid => iJ (Nat.not_lt.2 hid)) (by rw [eH hid]; exact hcur)
 refine ⟨fn, tmps, asg, body, c1, fun ro n Q hQ => c2 ro n Q fun γ' w' u gh' F hu ho hn => ?_⟩
 obtain ⟨k1, k2, k3, k4, k5⟩ := xQ (so := so) (ob' := ob') hx hb hw gh hob hnx gh' F (fun id c hc => ho id c trivial hc) (fun id hid => hn id trivial hid)
 exact hQ _ w' u k1 k2 (k3 _ _ hu) k4 k5
theorem WCall.fr {f : Nat} {d : Option Pos} {sl : T D} {K : X -> Prop} (h : CallOk P f ds ob nx none v ob' nx none) (hle : T.le ob obR) (hk : KpO nx.nat ob) (hd : KpL nx.nat ds) (hb : Beside nx ob' obR obR') (hx : nx.nat <= nx2.nat) (hl : LgLe lg lg') (hw : ∀ id : Pos, id.nat < nx.nat -> wrtn lg' id) (k : kW sl obR' nx2 lg' d K v) : WCall P f ds d ⟨sl, obR, nx2, lg⟩ K := by
 have C := h.frame hle hk hd hb hx hl hw
 cases d with
 | none => exact ⟨v, _, _, _, _, C, rfl, k⟩
 | some d =>
   obtain ⟨h1, h2⟩ := aT k
   exact ⟨v, _, _, _, _, C, h1, h2⟩
theorem WRnd.fr {id : Pos} {d : Option Pos} {sl : T D} {K : X -> Prop} (h : RndOk P id ds ob nx none v ob' nx none) (hid : id.nat < nx.nat) (hle : T.le ob obR) (hk : KpO nx.nat ob) (hd : KpL nx.nat ds) (hb : Beside nx ob' obR obR') (hx : nx.nat <= nx2.nat) (hl : LgLe lg lg') (hw : ∀ id : Pos, id.nat < nx.nat -> wrtn lg' id) (k : kW sl obR' nx2 lg' d K v) : WRnd P id ds d ⟨sl, obR, nx2, lg⟩ K := by
 have C := h.frame hid hle hk hd hb hx hl hw
 cases d with
 | none => exact ⟨v, _, _, _, _, C, rfl, k⟩
 | some d =>
   obtain ⟨h1, h2⟩ := aT k
   exact ⟨v, _, _, _, _, C, h1, h2⟩
end
def lS (id j : Pos) : Option Pos := bif Pos.beq j id then some .h else none
theorem gK (id : Pos) : lS id id = some .h := by unfold lS; rw [Pos.beq_self]; rfl
theorem gJ {id j : Pos} (h : j ≠ id) : lS id j = none := by
 unfold lS
 cases e : Pos.beq j id with
 | false => rfl
 | true => exact absurd (Pos.beq_iff.1 e) h
theorem Ren.one (id : Pos) : Ren (.o .h) (fun _ => id) (lS id) := by
 refine ⟨fun j hj => ?_, fun i j h => ?_⟩
 ·have : j = .h := by
   cases j with
   | h => rfl
   | o p => have := Pos.nat_pos p; have hj : 2 * p.nat < 2 := hj; omega
   | i p => have := Pos.nat_pos p; have hj : 2 * p.nat + 1 < 2 := hj; omega
  subst this
  exact gK id
 ·by_cases e : i = id
  ·subst e
   rw [gK] at h
   cases h
   exact ⟨by decide, rfl⟩
  ·rw [gJ e] at h; cases h
theorem CallOk.one {P : Program} {f : FuncId} {n st z cur : Nat} {cs : List Cell} {v : D} {ob' : T C} (h : CallOk P f [.sl .h 0 n st z] (.n .e (some (.cells false cs cur)) .e) (.o .h) none v ob' (.o .h) none) (hob' : ob'.get .h = some (.cells false cs cur)) (hp : ∀ c ∈ cs, Pu c.d) (hv : Pu v)
 {id : Pos} {ob : T C} {nx : Pos} {lg lg' : Option (T Bool)} (hid : ob.get id = some (.cells false cs cur)) (hlt : id.nat < nx.nat) (hl : LgLe lg lg') (hw : wrtn lg' id) : CallOk P f [.sl id 0 n st z] ob nx lg v ob nx lg' := by
 refine ⟨hl, Nat.le_refl _, Keeps.refl _ _, fun so hs γ args w gh hargs hob hnx => ?_⟩
 have hso : so id := hs id hw.tchd
 have h1 : Pos.h.nat < (Pos.o .h).nat := by decide
 have R := Ren.one id
 have hargs' : DVL (jD (.o .h) (fun _ => id) γ) w [.sl .h 0 n st z] args.toList := by
  unfold DVL at hargs ⊢
  obtain ⟨u, r, e1, e2, e3⟩ := hargs
  refine ⟨u, r, e1, ?_, e3⟩
  unfold DV at e2 ⊢
  rw [eH h1]
  exact e2
 obtain ⟨c1, c2⟩ := h.ok (fun _ => True) (fun _ _ => trivial) (jD (.o .h) (fun _ => id) γ) args w (pD R gh) hargs' (fun j c _ hc => by
  cases j with
  | h =>
    rw [T.get_h] at hc
    cases hc
    obtain ⟨q0, q1, q2⟩ := hob id _ hso hid
    refine ⟨q0, (eH h1).trans q1, fun s hs => ?_⟩
    obtain ⟨vs, e, fr, q3, q4, q5⟩ := q2 s hs
    refine ⟨vs, e, fr, q3, q4, fun p c hpc hh hd => ?_⟩
    obtain ⟨u, q6, q7, q8⟩ := q5 p c hpc hh hd
    exact ⟨u, q6, DV.pu (lA (nx := .o .h) (ρ := fun _ => id) (γ := γ)) _ _ (hp c (List.mem_of_getElem? hpc)) q7, q8⟩
  | o p => rw [T.get_o, T.get_e] at hc; cases hc
  | i p => rw [T.get_i, T.get_e] at hc; cases hc) (fun j _ hj => iJ (Nat.not_lt.2 hj))
 refine ⟨c1, fun ro m Q hQ => c2 ro m Q fun γ' w' u gh' F hu ho hn => ?_⟩
 have hWid : ∀ i j, lS id i = some j -> wrtn lg' i := fun i j h => by
  by_cases e : i = id
  ·subst e; exact hw
  ·rw [gJ e] at h; cases h
 refine hQ (vR (lS id) γ γ') w' u (Ah R gh gh' F) (zY R hWid F) (DV.pu (yS (τ := lS id) (γ := γ) (γ' := γ')) _ _ hv hu) (fun i c hi hc => ?_) (fun i hi hle => ?_)
 ·by_cases e : i = id
  ·subst e
   rw [hid] at hc
   cases hc
   obtain ⟨q0, q1, q2⟩ := ho .h _ trivial hob'
   refine ⟨q0, (eN (gK i)).trans q1, fun s hs => ?_⟩
   obtain ⟨vs, e, fr, q3, q4, q5⟩ := q2 s hs
   rw [gX (gK i)]
   refine ⟨vs, e, fr, q3, q4, fun p c hpc hh hd => ?_⟩
   obtain ⟨u, q6, q7, q8⟩ := q5 p c hpc hh hd
   exact ⟨u, q6, DV.pu (yS (τ := lS i) (γ := γ) (γ' := γ')) _ _ (hp c (List.mem_of_getElem? hpc)) q7, q8⟩
  ·exact qF R gh F (gJ e) (hob i c hi hc)
 ·have e : i ≠ id := fun e => by subst e; omega
  rw [dM (gJ e)]
  exact hnx i hi hle
theorem WCall.one {P : Program} {f : Nat} {n st z cur : Nat} {cs : List Cell} {v : D} {ob' : T C} (h : CallOk P f [.sl .h 0 n st z] (.n .e (some (.cells false cs cur)) .e) (.o .h) none v ob' (.o .h) none) (hob' : ob'.get .h = some (.cells false cs cur)) (hp : ∀ c ∈ cs, Pu c.d) (hv : Pu v)
 {id : Pos} {ob : T C} {nx : Pos} {lg lg' : Option (T Bool)} {sl : T D} {d : Option Pos} {K : X -> Prop} (hid : ob.get id = some (.cells false cs cur)) (hlt : id.nat < nx.nat) (hl : LgLe lg lg') (hw : wrtn lg' id) (k : kW sl ob nx lg' d K v) : WCall P f [.sl id 0 n st z] d ⟨sl, ob, nx, lg⟩ K := by
 have C := h.one hob' hp hv hid hlt hl hw
 cases d with
 | none => exact ⟨v, _, _, _, _, C, rfl, k⟩
 | some d =>
   obtain ⟨h1, h2⟩ := aT k
   exact ⟨v, _, _, _, _, C, h1, h2⟩
open Go.RowKit (Below Grown)
def HH (lg : Option (T Bool)) (id : Pos) : Option (T Bool) := match lg with
 | none => none
 | some L => some (T.set id true L)
theorem BQ (lg : Option (T Bool)) (id : Pos) : LgLe lg (HH lg id) := by
 cases lg with
 | none => exact LgLe.refl _
 | some L =>
   refine ⟨⟨fun h => (by cases h), fun h => (by cases h)⟩, fun j h => ?_, fun j h => ?_⟩
   ·obtain ⟨b, hb⟩ := h
    by_cases e : j = id
    ·subst e; exact ⟨true, T.get_set_same _ _ _⟩
    ·exact ⟨b, by rw [T.get_set_ne e _ _]; exact hb⟩
   ·by_cases e : j = id
    ·subst e; exact T.get_set_same _ _ _
    ·show (T.set id true L).get j = some true
     rw [T.get_set_ne e _ _]; exact h
theorem GU (lg : Option (T Bool)) (id : Pos) : wrtn (HH lg id) id := by
 cases lg with
 | none => trivial
 | some L => exact T.get_set_same _ _ _
section
variable {γ : Gh} {w : World} {id : Pos}
theorem Sy {u : Value} (h : DV γ w (.mp id) u) : DV (jD (.o .h) (fun _ => id) γ) w (.mp .h) u := by
 have h1 : Pos.h.nat < (Pos.o .h).nat := by decide
 unfold DV at h ⊢
 rw [eH h1]
 exact h
end
theorem PureF.borrowL {P : Program} {f : Nat} {ds ds' : List D} {v : D} (h : PureF P f ds' v) {ob ob1 : T C} (hz : FzL (fun _ => False) ob1 ds ds') (hle : T.le ob1 ob) (hv : hG v) (nx : Pos) {lg lg' : Option (T Bool)} (hl : LgLe lg lg') (ht : ∀ id c, ob1.get id = some c -> tchd lg' id) : CallOk P f ds ob nx lg v ob nx lg' := by
 refine ⟨hl, Nat.le_refl _, Keeps.refl _ _, fun so hs γ args w gh hargs hob hnx => ?_⟩
 let γs : Gh := ⟨fun _ => 0, fun _ _ => (0, 0), fun b => γ.im b \/ ((∃ id st, st < γ.cur id /\ (γ.β id st).1 = b) /\ ∃ vs e fr, w.heap[b]? = some (.cells vs e fr))⟩
 have hargs' : DVL γs w ds' args.toList := by
  have h1 : DV γ w (.tp ds) (.tuple args) := by unfold DV; exact ⟨args, rfl, hargs⟩
  have h2 := Fz.ok (γ := γ) (γ' := γs) (B := fun _ => False) (fun b hb => .inl hb) (fun id c hc => hob id c (hs id (ht id c hc)) (hle id c hc)) (fun _ h => h.elim) (fun id st vs e fr _ hst hc => .inr ⟨⟨id, st, hst, rfl⟩, vs, e, fr, hc⟩) (.tp hz) _ h1
  obtain ⟨vs, e, h3⟩ := tQ h2
  cases e
  exact h3
 obtain ⟨c1, c2⟩ := (h .e .h none).ok (fun _ => True) (fun _ _ => trivial) γs args w ⟨fun _ st h => absurd h (Nat.not_lt_zero st), fun _ st _ _ h => absurd h (Nat.not_lt_zero st), fun b hb => ⟨by
  rcases hb with hb | hb
  ·exact (gh.im b hb).1
  ·exact hb.2, fun _ st h => absurd h (Nat.not_lt_zero st)⟩, gh.gl.im fun _ h => .inl h⟩ hargs' (fun id c _ hc => by rw [T.get_e] at hc; cases hc) (fun _ _ _ => rfl)
 refine ⟨c1, fun ro m R hR => c2 ro m R fun γ' w' u gh' F hu _ _ => ?_⟩
 have hb : ∀ b, b < w.heap.size -> w'.heap[b]? = w.heap[b]? := fun b hb => F.blk b hb fun id st _ hst => absurd hst (Nat.not_lt_zero st)
 have U : Up γ γ w w' := ⟨fun _ => Nat.le_refl _, fun _ _ _ => rfl, F.up.3, fun b hm => ⟨hm, fun o ho => by rw [hb b (Array.getElem?_eq_some_iff.1 ho).1]; exact ho⟩⟩
 exact hR γ w' u ⟨fun id st hst => Nat.lt_of_lt_of_le (gh.ob id st hst) F.size, gh.inj, fun b hm => ⟨let ⟨⟨vs, e, fr, k1⟩, _⟩ := gh.im b hm; ⟨vs, e, fr, (U.im b hm).2 _ k1⟩, (gh.im b hm).2⟩, gh.gl.up U⟩
  ⟨U, fun _ _ => rfl, fun b h1 _ => hb b h1, fun _ _ h1 h2 => absurd h2 (by omega), fun _ h _ => h, F.lp, F.size, F.os, F.tape, F.output, F.fz⟩ (DV.flat v u hv hu)
  (fun id c hid hc => HoldsO.mono U rfl (fun st hst => hb _ (gh.ob id st hst)) (hob id c hid hc)) hnx
open Go.RowKit (Below Grown)
structure RnF (P : Program) (nt : Nat) (x0 : X) (rc : RC) (y : X) (K : Ex -> X -> Prop) : Prop where
 ok : x0.lg = none -> y.lg = none -> x0.nx.nat <= y.nx.nat -> ∀ c : Code, aV P nt c = rc -> ∃ e Z, Z.lg = none /\ x0.nx.nat <= Z.nx.nat /\ K e Z /\
  ∀ (ro : Option Nat) (γ : Gh) (a : Act) (w : World), a.tmps.size = nt -> G ro γ a w -> Rep P (gE fun _ => True) γ a w x0 -> ∀ (γ1 : Gh) (a1 : Act) (w1 : World), CSt ro none γ a w γ1 a1 w1 -> Rep P (gE fun _ => True) γ1 a1 w1 y ->
    ∀ (n : Nat) (Q : Exit -> Act -> World -> Prop), (∀ γ' a' w', CSt ro none γ a w γ' a' w' -> Rep P (gE fun _ => True) γ' a' w' Z -> Q e.to a' w') -> c.wpIn (FW ro) n P Q a1 w1
section
variable {P : Program} {nt : Nat} {x0 : X} {rc : RC} {y : X} {K : Ex -> X -> Prop}
theorem Rep.all {so : Pos -> Prop} {γ : Gh} {a : Act} {w : World} {x : X} (h : ∀ id, so id) (R : Rep P (gE so) γ a w x) : Rep P (gE fun _ => True) γ a w x :=
 ⟨fun s d _ hd => R.sl s d trivial hd, fun id c _ hc => R.ob id c (h id) hc, fun id _ hle => R.nx id (h id) hle, R.gl⟩
theorem Rep.any {so : Pos -> Prop} {γ : Gh} {a : Act} {w : World} {x : X} (R : Rep P (gE fun _ => True) γ a w x) : Rep P (gE so) γ a w x :=
 ⟨fun s d _ hd => R.sl s d trivial hd, fun id c _ hc => R.ob id c trivial hc, fun id _ hle => R.nx id trivial hle, R.gl⟩
theorem Rn.far {x : X} (hl : x.lg = none) (h : RnF P nt x rc x K) : Rn P nt rc x K :=
 ⟨fun c hc => by
  obtain ⟨e, Z, h1, h2, h3, h4⟩ := h.ok hl hl (Nat.le_refl _) c hc
  refine ⟨e, Z, ⟨by rw [hl, h1]; exact LgLe.refl _, h2, fun id hn => by rw [h1] at hn; exact absurd trivial hn, fun so hs ro γ a w hn g R n Q hQ => ?_⟩, h3⟩
  have hall : ∀ id, so id := fun id => hs id (by rw [h1]; trivial)
  refine h4 ro γ a w hn g (R.all hall) γ a w (CSt.refl g) (R.all hall) n Q fun γ' a' w' s' R' => hQ γ' a' w' (by rw [h1]; exact s') R'.any⟩
structure FarK (P : Program) (nt : Nat) (x0 : X) (b : RC) (K : Ex -> X -> Prop) (e : Ex) (z : X) : Prop where
 ok : e = .normal /\ z.lg = none /\ x0.nx.nat <= z.nx.nat /\ RnF P nt x0 b z K
theorem RnF.seq {a b : RC} (h : Rn P nt a y (FarK P nt x0 b K)) : RnF P nt x0 (.seq a b) y K :=
 ⟨fun hl0 hly hx c hc => by
  obtain ⟨c1, k1, k2, k3⟩ := MB (P := P) (nt := nt) c
  have hc1 := k1.trans hc
  refine kA hc1 k2 (fun e => by cases e) (fun _ e => by cases e) (fun j _ e => by cases e) (fun i ops _ e => by cases e) (fun i ops _ e => by cases e) (fun a' b' e e' => ?_) (fun _ _ _ _ _ _ e => by cases e) (fun _ _ _ e => by cases e) (fun _ _ e => by cases e) (fun _ _ _ _ _ _ _ _ _ e => by cases e) (fun e => by cases e)
  simp only [RC.seq.injEq] at e'
  obtain ⟨e1, e2⟩ := e'
  subst e
  obtain ⟨e, z, h1, h2⟩ := h.ok a' e1.symm
  obtain ⟨rfl, hlz, hxz, h3⟩ := h2.ok
  obtain ⟨e, Z, j1, j2, j3, j4⟩ := h3.ok hl0 hlz hxz b' e2.symm
  refine ⟨e, Z, j1, j2, j3, fun ro γ A w hn g R γ1 a1 w1 s1 R1 n Q hQ => ?_⟩
  obtain ⟨Q', q1, q2⟩ := k3 (F := FW ro) (n := n) (Q := Q) (a := a1) (w := w1)
  refine q2 (wpIn_seq (h1.ok (fun _ => True) (fun _ _ => trivial) ro γ1 a1 w1 (s1.sz.trans hn) s1.g R1 n _ fun γ2 a2 w2 s2 R2 => ?_))
  have s2 : CSt ro none γ1 a1 w1 γ2 a2 w2 := by rw [hlz] at s2; exact s2
  exact j4 ro γ A w hn g R γ2 a2 w2 (CSt.trans (LgLe.refl _) s1 s2) R2 n Q' fun γ' a' w' s' R' => q1 _ _ _ (hQ γ' a' w' s' R')⟩
theorem RnF.turn {z' : X} {B : Pos -> Prop} (S : ShrB B y z') (hx : ∀ id : Pos, id.nat < x0.nx.nat -> B id) (hz : ∀ id : Pos, B id -> id.nat < z'.nx.nat) (hn0 : x0.nx.nat <= z'.nx.nat) (h : Rn P nt rc z' K) : RnF P nt x0 rc y K :=
 ⟨fun hl0 hly hxy c hc => by
  obtain ⟨e, Z, h1, h2⟩ := h.ok c hc
  have hZ : Z.lg = none := h1.lg.none.1 S.l'
  refine ⟨e, Z, hZ, Nat.le_trans hn0 h1.nx, h2, fun ro γ A w hn g R γ1 a1 w1 s1 R1 n Q hQ => ?_⟩
  obtain ⟨γ2, s2, R2⟩ := Cy S hx hz (fun _ => trivial) R (by rw [hly]; exact s1) R1
  have s2 : CSt ro none γ A w γ2 a1 w1 := by rw [S.l'] at s2; exact s2
  refine h1.ok (fun _ => True) (fun _ _ => trivial) ro γ2 a1 w1 (s2.sz.trans hn) s2.g R2 n Q fun γ3 a3 w3 s3 R3 => ?_
  have s3 : CSt ro none γ2 a1 w1 γ3 a3 w3 := by rw [hZ] at s3; exact s3
  exact hQ γ3 a3 w3 (CSt.trans (LgLe.refl _) s2 s3) R3⟩
end
open Go.RowKit (Below Grown)
structure Fill (nx a : Pos) (ob1 ob2 : T C) : Prop where
 ok : ∃ (r q : Pos) (ro : Bool) (n st z k m jA cur : Nat) (ds : List D), r.nat + 1 = nx.nat /\ q.nat < r.nat /\ ob1.get r = some .hole /\ aO ds /\
  ob1.get a = some (.cells false (ds.map fun d => Cell.o d jA) cur) /\ ob1.get q = some (.cells ro [.o (.sl a 0 n st z) k] m) /\
  ∀ i ci, ob2.get i = some ci -> (i = r /\ ci = .cells false (ds.map fun d => Cell.o d jA) cur) \/ (i = q /\ ci = .cells ro [.o (.sl r 0 n st z) k] m) \/ (i.nat < r.nat /\ ob1.get i = some ci /\ KpC r.nat ci)
open Classical in
theorem RndOk.fill {P : Program} {id : Pos} {ds : List D} {ob ob1 ob2 : T C} {nx nx1 a : Pos} {v : D} (h : RndOk P id ds ob nx none v ob1 nx1 none) (hv : Pu v) (ha : nx.nat <= a.nat) (F : Fill nx a ob1 ob2) : RndOk P id ds ob nx none v ob2 nx none := by
 obtain ⟨r, q, ro, n, st, z, k, m, jA, cu, dz, hr, hq, hole, hpu, hn, hqq, hrest⟩ := F.ok
 refine ⟨LgLe.refl _, Nat.le_refl _, fun id hn => absurd trivial hn, fun so hs γ args w gh hargs hob hnx hcur => ?_⟩
 have hall : ∀ id, so id := fun id => hs id trivial
 obtain ⟨fn, tmps, asg, body, h1, h2⟩ := h.ok so (fun id _ => hall id) γ args w gh hargs hob hnx hcur
 refine ⟨fn, tmps, asg, body, h1, fun ro' n' R hR => h2 ro' n' R fun γ1 w1 u g1 F1 hu ho hz => ?_⟩
 have hnr : a ≠ r := fun e => by rw [e] at ha; omega
 have hr1 : γ1.cur r = 0 := ho r _ (hall r) hole
 have hr0 : γ.cur r = 0 := by have := F1.up.cur r; omega
 have hnx0 : γ.cur a = 0 := hnx a (hall a) ha
 let γ2 : Gh := ⟨fun i => if i = r then γ1.cur a else if i.nat < r.nat then γ1.cur i else 0, fun i => if i = r then γ1.β a else γ1.β i, γ1.im⟩
 have cr : γ2.cur r = γ1.cur a := by show (if _ then _ else _) = _; rw [if_pos rfl]
 have br : γ2.β r = γ1.β a := by show (if _ then _ else _) = _; rw [if_pos rfl]
 have cl : ∀ i : Pos, i.nat < r.nat -> γ2.cur i = γ1.cur i := fun i hi => by
  have hne : i ≠ r := fun e => by rw [e] at hi; omega
  show (if _ then _ else _) = _; rw [if_neg hne, if_pos hi]
 have bl : ∀ i : Pos, i ≠ r -> γ2.β i = γ1.β i := fun i hi => by show (if _ then _ else _) = _; rw [if_neg hi]
 have c0 : ∀ i : Pos, i ≠ r -> ¬ i.nat < r.nat -> γ2.cur i = 0 := fun i h1 h2 => by show (if _ then _ else _) = _; rw [if_neg h1, if_neg h2]
 have lt2 : ∀ i s, s < γ2.cur i -> ∃ j, s < γ1.cur j /\ γ2.β i = γ1.β j /\ ((i = r /\ j = a) \/ (i.nat < r.nat /\ j = i)) := fun i s hi => by
  by_cases e : i = r
  ·subst e; rw [cr] at hi; exact ⟨a, hi, br, .inl ⟨rfl, rfl⟩⟩
  ·by_cases hl : i.nat < r.nat
   ·rw [cl i hl] at hi; exact ⟨i, hi, bl i e, .inr ⟨hl, rfl⟩⟩
   ·rw [c0 i e hl] at hi; exact absurd hi (Nat.not_lt_zero _)
 have kp : ∀ id : Pos, id.nat < r.nat -> γ2.cur id = γ1.cur id /\ γ2.β id = γ1.β id := fun i hi => ⟨cl i hi, bl i fun e => by rw [e] at hi; omega⟩
 have G2 : GH γ2 w1 := by
  refine ⟨fun i s hi => ?_, fun i s i' s' hi hi' he => ?_, fun b hb => ⟨(g1.im b hb).1, fun i s hi => ?_⟩, g1.gl.im fun _ h => h⟩
  ·obtain ⟨j, k1, k2, _⟩ := lt2 i s hi
   rw [k2]; exact g1.ob j s k1
  ·obtain ⟨j, k1, k2, k3⟩ := lt2 i s hi
   obtain ⟨j', k1', k2', k3'⟩ := lt2 i' s' hi'
   rw [k2, k2'] at he ⊢
   obtain ⟨e1, e2⟩ := g1.inj j s j' s' k1 k1' he
   refine ⟨?_, e2⟩
   rcases k3 with ⟨a1, a2⟩ | ⟨a1, a2⟩ <;> rcases k3' with ⟨b1, b2⟩ | ⟨b1, b2⟩
   ·rw [a1, b1]
   ·exfalso; rw [a2, b2] at e1; rw [<- e1] at b1; omega
   ·exfalso; rw [a2, b2] at e1; rw [e1] at a1; omega
   ·rw [<- a2, <- b2, e1]
  ·obtain ⟨j, k1, k2, _⟩ := lt2 i s hi
   rw [k2]; exact (g1.im b hb).2 j s k1
 have F2 : Fr (wrtn none) γ γ2 w w1 := by
  refine ⟨⟨fun i => ?_, fun i s hi => ?_, F1.up.sh, F1.up.im⟩, fun id hn => absurd trivial hn, F1.blk, fun i s h1 h2 => ?_, F1.imn, F1.lp, F1.size, F1.os, F1.tape, F1.output, F1.fz⟩
  ·by_cases e : i = r
   ·subst e; rw [hr0]; exact Nat.zero_le _
   ·by_cases hl : i.nat < r.nat
    ·rw [cl i hl]; exact F1.up.cur i
    ·have : r.nat ≠ i.nat := fun h => e (Pos.inj h.symm)
     rw [hnx i (hall i) (by omega)]; exact Nat.zero_le _
  ·have e : i ≠ r := fun e => by subst e; rw [hr0] at hi; exact absurd hi (Nat.not_lt_zero _)
   rw [bl i e]; exact F1.up.β i s hi
  ·obtain ⟨j, k1, k2, k3⟩ := lt2 i s h2
   rw [k2]
   rcases k3 with ⟨a1, a2⟩ | ⟨a1, a2⟩
   ·subst a2
    rcases F1.new j s (by rw [hnx0]; exact Nat.zero_le _) k1 with h | ⟨s0, h, _⟩
    ·exact .inl h
    ·rw [hnx0] at h; exact absurd h (Nat.not_lt_zero _)
   ·subst a2; exact F1.new j s h1 k1
 refine hR γ2 w1 u G2 F2 (DV.pu (γ := γ1) (γ' := γ2) (fun _ h => h) _ _ hv hu) (fun i ci _ hci => ?_) (fun i _ hi => c0 i (fun e => by rw [e] at hi; omega) (by omega))
 rcases hrest i ci hci with ⟨rfl, rfl⟩ | ⟨rfl, rfl⟩ | ⟨hi, hg, hk⟩
 ·obtain ⟨q0, q1, q2⟩ := ho a _ (hall a) hn
  refine ⟨q0, cr.trans q1, fun s hs => ?_⟩
  obtain ⟨vs, e, fr, q3, q4, q5⟩ := q2 s hs
  rw [br]
  refine ⟨vs, e, fr, q3, q4, fun p c hpc hh hd => ?_⟩
  obtain ⟨u', q6, q7, q8⟩ := q5 p c hpc hh hd
  refine ⟨u', q6, DV.pu (γ := γ1) (γ' := γ2) (fun _ h => h) _ _ ?_ q7, q8⟩
  obtain ⟨d, hd1, rfl⟩ := List.mem_map.1 (List.mem_of_getElem? hpc)
  exact aG.1 hpu d hd1
 ·obtain ⟨q0, q1, q2⟩ := ho i _ (hall i) hqq
  obtain ⟨e1, e2⟩ := kp i hq
  refine ⟨q0, e1.trans q1, fun s hs => ?_⟩
  obtain ⟨vs, e, fr, q3, q4, q5⟩ := q2 s hs
  rw [e2]
  refine ⟨vs, e, fr, q3, q4, fun p c hpc hh hd => ?_⟩
  cases p with
  | zero =>
    have hc : c = Cell.o (.sl r 0 n st z) k := by simpa using hpc.symm
    subst hc
    obtain ⟨u', q6, q7, q8⟩ := q5 0 (Cell.o (.sl a 0 n st z) k) rfl hh hd
    refine ⟨u', q6, ?_, q8⟩
    have q7 : DV γ1 w1 (.sl a 0 n st z) u' := q7
    show DV γ2 w1 (.sl r 0 n st z) u'
    unfold DV at q7 ⊢
    rw [cr, br]
    exact q7
  | succ p => simp at hpc
 ·exact HoldsO.kp (γ := γ1) (γ' := γ2) (fun _ h => h) kp hi hk (ho i ci (hall i) hg)
theorem CallOk.hole {P : Program} {f : Nat} {ds : List D} {ob ob' : T C} {nx nx' nx2 r : Pos} {lg lg' : Option (T Bool)} {v : D} (h : CallOk P f ds (T.set r .hole ob) nx' lg v ob' nx2 lg') (h1 : nx.nat <= r.nat) (h2 : nx.nat <= nx'.nat) (hw : wrtn lg' r) : CallOk P f ds ob nx lg v ob' nx2 lg' :=
 ⟨h.hl, Nat.le_trans h2 h.hx, fun id hn => by
  by_cases e : id = r
  ·subst e; exact absurd hw hn
  ·have := h.hk id hn
   rw [T.get_set_ne e] at this
   exact this, fun so hs γ args w gh ha ho hn => h.ok so hs γ args w gh ha (fun id c hid hc => by
  by_cases e : id = r
  ·subst e
   rw [T.get_set_same] at hc
   cases hc
   exact hn id hid h1
  ·rw [T.get_set_ne e] at hc
   exact ho id c hid hc) fun id hid hle => hn id hid (Nat.le_trans h2 hle)⟩
section
variable {lg : Option (T Bool)}
def FJ (lg : Option (T Bool)) (id : Pos) (k : Option (T Bool) -> Prop) : Prop :=
 Option.casesOn lg (k none) fun L => Option.casesOn (L.get id) (T.setK id false L fun L => k (some L)) fun _ => k (some L)
def IM (lg : Option (T Bool)) (id : Pos) (k : Option (T Bool) -> Prop) : Prop :=
 Option.casesOn lg (k none) fun L => T.setK id true L fun L => k (some L)
theorem jP {id : Pos} {k : Option (T Bool) -> Prop} (h : FJ lg id k) : ∃ l, (jS lg id = fun j => j l) /\ k l := by
 cases lg with
 | none => exact ⟨none, rfl, h⟩
 | some L =>
   change Option.rec _ _ (L.get id) at h
   cases hg : L.get id with
   | none =>
     rw [hg] at h
     change T.setK id false L _ at h
     rw [T.setK_eq] at h
     exact ⟨some (T.set id false L), funext fun j => by simp only [jS, hg, T.setK_eq], h⟩
   | some b => rw [hg] at h; exact ⟨some L, funext fun j => by simp only [jS, hg], h⟩
theorem lN {id : Pos} {k : Option (T Bool) -> Prop} (h : IM lg id k) : ∃ l, (zF lg id = fun j => j l) /\ k l := by
 cases lg with
 | none => exact ⟨none, rfl, h⟩
 | some L =>
   change T.setK id true L _ at h
   rw [T.setK_eq] at h
   exact ⟨_, funext fun j => by show T.setK id true L _ = _; rw [T.setK_eq], h⟩
end
theorem wSt.ok {o : Option X} {Z : X} {K : X -> Prop} (h : o = some Z) (k : K Z) : wSt o K := by
 subst h
 exact k
section
variable {sl : T D} {ob : T C} {nx : Pos} {lg : Option (T Bool)} {K : X -> Prop}
theorem wSt.fad {d id : Pos} {off st k : Nat} {x : RX} (hx : bG sl x = some (.pt id off st)) (h : dX sl ob nx lg d K (.pt id (off + k) st)) : wSt (step (.fad d x k) sl ob nx lg) K := by
 obtain ⟨h2, h3⟩ := aT h
 refine wSt.ok ?_ h3
 show xJ d x k sl ob nx lg = _
 unfold xJ
 rw [hx]
 simp only [bH]
 exact h2
theorem wSt.ld1 {d id : Pos} {off st lo cur : Nat} {ro : Bool} {cs : List Cell} {v : D} {x : RX} (hx : bG sl x = some (.pt id off st)) (ho : ob.get id = some (.cells ro cs cur)) (hc : cs[off]? = some (.o v lo)) (hl : lo <= st) (h : FJ lg id fun lg => dX sl ob nx lg d K v) : wSt (step (.ld1 d x) sl ob nx lg) K := by
 obtain ⟨l1, e1, h⟩ := jP h
 obtain ⟨h2, h3⟩ := aT h
 refine wSt.ok ?_ h3
 show vZ d x sl ob nx lg = _
 unfold vZ
 rw [hx]
 simp only [ho, eW, hc]
 show (bif Nat.ble lo st then _ else none) = _
 rw [Nat.ble_eq_true_of_le hl, cond_true, e1]
 exact h2
theorem uU {β : Type} (st : Nat) (mk : D -> Cell) (v : D) : ∀ (off : Nat) (cs : List Cell) (f : List Cell -> Option β) (d : D) (lo : Nat), cs[off]? = some (.o d lo) -> lo <= st -> eF st mk [v] off cs f = f (cs.set off (mk v))
 | 0, [], f, d, lo, h, _ => by simp at h
 | 0, c :: cs, f, d, lo, h, hl => by
   simp at h
   subst h
   show (bif Nat.ble lo st then f (mk v :: cs) else none) = _
   rw [Nat.ble_eq_true_of_le hl]
   rfl
 | off + 1, [], f, d, lo, h, _ => by simp at h
 | off + 1, c :: cs, f, d, lo, h, hl => by
   show eF st mk [v] off cs (fun l => f (c :: l)) = _
   rw [uU st mk v off cs _ d lo (by simpa using h) hl]
   rfl
theorem wSt.st1 {id : Pos} {off st lo cur : Nat} {cs : List Cell} {v0 : D} {k : IntKind} {n : Int} {x y : RX} (hx : bG sl x = some (.pt id off st)) (hy : bG sl y = some (.i k n)) (ho : ob.get id = some (.cells false cs cur)) (hcur : cur = st + 1) (hc : cs[off]? = some (.o v0 lo)) (hl : lo <= st) (h : IM lg id fun lg => T.setK id (.cells false (cs.set off (.o (.i k n) st)) cur) ob fun ob => K ⟨sl, ob, nx, lg⟩) : wSt (step (.st x y 1) sl ob nx lg) K := by
 obtain ⟨l1, e1, h⟩ := lN h
 rw [T.setK_eq] at h
 refine wSt.ok ?_ h
 show vV x y 1 sl ob nx lg = _
 unfold vV
 rw [hx, hy]
 subst hcur
 have hb : Nat.beq (Nat.succ st) (st + 1) = true := Nat.beq_refl _
 have hcd : mJ (.i k n) = some [.i k n] := rfl
 simp only [ho, hcd]
 show (bif Nat.beq 1 1 then (bif Nat.beq (Nat.succ st) (st + 1) then _ else _) else none) = _
 rw [hb]
 show eF st (fun d => Cell.o d st) [D.i k n] off cs _ = _
 rw [uU st _ _ off cs _ v0 lo hc hl]
 unfold nT
 rw [e1]
 show (T.setK id _ ob fun ob => some ⟨sl, ob, nx, l1⟩ : Option X) = _
 rw [T.setK_eq]
theorem WSt.ixsY {d id : Pos} {off st z m len : Nat} {kk : IntKind} {x i : RX} (hx : bG sl x = some (.sl id off len st z)) (hi : bG sl i = some (.i kk (m : Int))) (hm : m < len) (h : dX sl ob nx lg d K (.pt id (off + m * z) st)) : WSt (.ixs d z x i) ⟨sl, ob, nx, lg⟩ K := by
 obtain ⟨h2, h3⟩ := aT h
 refine ⟨_, ?_, h3⟩
 show nY d z x i sl ob nx lg = _
 unfold nY
 rw [hx, hi]
 have hidx : FQ (m : Int) len = some m := by
  show (bif Nat.blt m len then some m else none) = _
  have : Nat.blt m len = true := by unfold Nat.blt; exact Nat.ble_eq_true_of_le hm
  rw [this]; rfl
 simp only [Nat.beq_refl, cond_true, hidx, bH]
 exact h2
end
end Go.Ev
end
