import Derived.Test.YtjgbfnciedkafaaEvUHc
import Derived.Test.YtjgbfnciedkafaaEvUJb
import Derived.Test.YtjgbfnciedkafaaEvUOc
set_option linter.all false
namespace Go.Ev
open Go.Proofs
set_option maxRecDepth 100000
def outT (n coin box : Int) (ls : List Ln) (cs : List Ct) (after : Int) : D :=
  if sE n coin box ls cs (inR after 0 ls.length) = 0 then .tp [.lst 1 (ints (vdL (B5 n coin box ls cs) after.toNat 0)), .lst 1 (ints (vdL (B5 n coin box ls cs) after.toNat 4)), .i .i64 0] else .tp [.lst 1 [], .lst 1 [], .i .i64 (sE n coin box ls cs (inR after 0 ls.length))]
theorem j_OutP (n coin box : Int) (ls : List Ln) (cs : List Ct) (after : Int) : PureF Try.prog p34.ix [.ag [.i .i64 n, .i .i64 coin, .i .i64 box, .lst 3 (rows lnD ls), .lst 3 (rows ctD cs)], .i .i64 after] (outT n coin box ls cs after) := by
  have e1 := rows_length lnD ls
  have cU : PureF Try.prog p86.ix [.i .i64 after, .i .i64 ((rows lnD ls).length : Int)] (.b (inR after 0 ls.length)) := by
    have := j_upTo after ((rows lnD ls).length : Int)
    rw [e1] at this ⊢
    exact this
  unfold outT
  by_cases hE : sE n coin box ls cs (inR after 0 ls.length) = 0
  · rw [if_pos hE]
    obtain ⟨hf, ht⟩ := sE_fault hE
    have hE' := hE
    rw [ht] at hE' cU
    obtain ⟨M, hM, Hs⟩ := j_startO n coin box ls cs hE'
    have ha := inR_iff.1 ht
    have V := VB.of hf
    obtain ⟨M', hM', Hb⟩ := j_verdicts V (aft := after.toNat) (fst := 0) (show after.toNat ≤ ls.length by omega) (by omega) (ex_ne hE) M hM
    obtain ⟨M'', hM'', Hc⟩ := j_verdicts V (aft := after.toNat) (fst := 4) (show after.toNat ≤ ls.length by omega) (by omega) (ex_ne hE) M' hM'
    rw [show ((after.toNat : Nat) : Int) = after by omega] at Hb Hc
    refine PureF.run fn33 (by simp) (by simp [PuL, PuE, Pu, pu_ints, pu_ln, pu_ct]) ?_; conv => whnf
    repeat' first | ((first | with_reducible apply WB.tt | with_reducible apply WB.ff | refine Rn.seq ?_ | refine Rn.reg ?_ | refine Rn.drw ?_ | refine Rn.blk ?_ | refine Rn.skip ?_ | refine Rn.ret ?_ | refine Rn.exit ?_ | refine Rn.cond rfl ?_ | refine And.intro (InR.i64 (by omega) (by omega)) ?_ | refine And.intro (show _ ≠ (0 : Int) by omega) ?_ | refine WIx.intsN (by omega) ?_ | refine WIx.rowsN (by omega) ?_ | refine WCall.pure (cU) ?_ | with_reducible refine WB.decT (by first | with_reducible rfl | assumption | omega | exact ⟨rfl, rfl⟩) ?_ | with_reducible refine WB.decF (by first | assumption | omega) ?_ | with_reducible refine WB.ndT (by first | with_reducible rfl | assumption | omega | exact ⟨rfl, rfl⟩) ?_ | with_reducible refine WB.ndF (by first | assumption | omega) ?_ | with_reducible refine WB.nt ?_ | with_reducible refine WB.nf ?_ | with_reducible refine WB.dec (fun h => ?_) (fun h => ?_) | with_reducible refine WB.ndec (fun h => ?_) (fun h => ?_) | refine WB.mk (fun h => ?_) (fun h => ?_)) <;> conv => whnf)
    refine WCall.of (start_at Hs) ?_; conv => whnf
    repeat' first | ((first | with_reducible apply WB.tt | with_reducible apply WB.ff | refine Rn.seq ?_ | refine Rn.reg ?_ | refine Rn.drw ?_ | refine Rn.blk ?_ | refine Rn.skip ?_ | refine Rn.ret ?_ | refine Rn.exit ?_ | refine Rn.cond rfl ?_ | refine And.intro (InR.i64 (by omega) (by omega)) ?_ | refine And.intro (show _ ≠ (0 : Int) by omega) ?_ | refine WIx.intsN (by omega) ?_ | refine WIx.rowsN (by omega) ?_ | with_reducible refine WB.decT (by first | with_reducible rfl | assumption | omega | exact ⟨rfl, rfl⟩) ?_ | with_reducible refine WB.decF (by first | assumption | omega) ?_ | with_reducible refine WB.ndT (by first | with_reducible rfl | assumption | omega | exact ⟨rfl, rfl⟩) ?_ | with_reducible refine WB.ndF (by first | assumption | omega) ?_ | with_reducible refine WB.nt ?_ | with_reducible refine WB.nf ?_ | with_reducible refine WB.dec (fun h => ?_) (fun h => ?_) | with_reducible refine WB.ndec (fun h => ?_) (fun h => ?_) | refine WB.mk (fun h => ?_) (fun h => ?_)) <;> conv => whnf)
    refine WCall.of (CallOk.mapAt Hb (pu_ints _) (id := .o .h) rfl (show 2 < 4 from by decide) (mp_at (show PuL [.i .i64 after, .i .i64 ((0 : Nat) : Int)] from ⟨trivial, trivial, trivial⟩))) ?_; conv => whnf
    repeat' first | ((first | with_reducible apply WB.tt | with_reducible apply WB.ff | refine Rn.seq ?_ | refine Rn.reg ?_ | refine Rn.drw ?_ | refine Rn.blk ?_ | refine Rn.skip ?_ | refine Rn.ret ?_ | refine Rn.exit ?_ | refine Rn.cond rfl ?_ | refine And.intro (InR.i64 (by omega) (by omega)) ?_ | refine And.intro (show _ ≠ (0 : Int) by omega) ?_ | refine WIx.intsN (by omega) ?_ | refine WIx.rowsN (by omega) ?_ | with_reducible refine WB.decT (by first | with_reducible rfl | assumption | omega | exact ⟨rfl, rfl⟩) ?_ | with_reducible refine WB.decF (by first | assumption | omega) ?_ | with_reducible refine WB.ndT (by first | with_reducible rfl | assumption | omega | exact ⟨rfl, rfl⟩) ?_ | with_reducible refine WB.ndF (by first | assumption | omega) ?_ | with_reducible refine WB.nt ?_ | with_reducible refine WB.nf ?_ | with_reducible refine WB.dec (fun h => ?_) (fun h => ?_) | with_reducible refine WB.ndec (fun h => ?_) (fun h => ?_) | refine WB.mk (fun h => ?_) (fun h => ?_)) <;> conv => whnf)
    refine WCall.of (CallOk.mapAt Hc (pu_ints _) (id := .o .h) rfl (show 2 < 4 from by decide) (mp_at (show PuL [.i .i64 after, .i .i64 ((4 : Nat) : Int)] from ⟨trivial, trivial, trivial⟩))) ?_; conv => whnf
    repeat' first | ((first | with_reducible apply WB.tt | with_reducible apply WB.ff | refine Rn.seq ?_ | refine Rn.reg ?_ | refine Rn.drw ?_ | refine Rn.blk ?_ | refine Rn.skip ?_ | refine Rn.ret ?_ | refine Rn.exit ?_ | refine Rn.cond rfl ?_ | refine And.intro (InR.i64 (by omega) (by omega)) ?_ | refine And.intro (show _ ≠ (0 : Int) by omega) ?_ | refine WIx.intsN (by omega) ?_ | refine WIx.rowsN (by omega) ?_ | with_reducible refine WB.decT (by first | with_reducible rfl | assumption | omega | exact ⟨rfl, rfl⟩) ?_ | with_reducible refine WB.decF (by first | assumption | omega) ?_ | with_reducible refine WB.ndT (by first | with_reducible rfl | assumption | omega | exact ⟨rfl, rfl⟩) ?_ | with_reducible refine WB.ndF (by first | assumption | omega) ?_ | with_reducible refine WB.nt ?_ | with_reducible refine WB.nf ?_ | with_reducible refine WB.dec (fun h => ?_) (fun h => ?_) | with_reducible refine WB.ndec (fun h => ?_) (fun h => ?_) | refine WB.mk (fun h => ?_) (fun h => ?_)) <;> conv => whnf)
    exact ⟨.inr rfl, _, rfl, .tp (.cons (.pu (pu_ints _)) (.cons (.pu (pu_ints _)) (.cons (.pu trivial) .nil)))⟩
  · rw [if_neg hE]
    have cS := j_startE n coin box ls cs _ hE
    generalize sE n coin box ls cs (inR after 0 ls.length) = e at hE cS ⊢
    unfold wkQ B5 zwk at cS
    refine PureF.run fn33 (by simp) (by simp [PuL, PuE, Pu, pu_ints, pu_ln, pu_ct]) ?_; conv => whnf
    repeat' first | ((first | with_reducible apply WB.tt | with_reducible apply WB.ff | refine Rn.seq ?_ | refine Rn.reg ?_ | refine Rn.drw ?_ | refine Rn.blk ?_ | refine Rn.skip ?_ | refine Rn.ret ?_ | refine Rn.exit ?_ | refine Rn.cond rfl ?_ | refine And.intro (InR.i64 (by omega) (by omega)) ?_ | refine And.intro (show _ ≠ (0 : Int) by omega) ?_ | refine WIx.intsN (by omega) ?_ | refine WIx.rowsN (by omega) ?_ | refine WCall.pure (cU) ?_ | refine WCall.pure (cS) ?_ | with_reducible refine WB.decT (by first | with_reducible rfl | assumption | omega | exact ⟨rfl, rfl⟩) ?_ | with_reducible refine WB.decF (by first | assumption | omega) ?_ | with_reducible refine WB.ndT (by first | with_reducible rfl | assumption | omega | exact ⟨rfl, rfl⟩) ?_ | with_reducible refine WB.ndF (by first | assumption | omega) ?_ | with_reducible refine WB.nt ?_ | with_reducible refine WB.nf ?_ | with_reducible refine WB.dec (fun h => ?_) (fun h => ?_) | with_reducible refine WB.ndec (fun h => ?_) (fun h => ?_) | refine WB.mk (fun h => ?_) (fun h => ?_)) <;> conv => whnf)
    all_goals first
      | (exfalso; omega)
      | exact ⟨.inr rfl, _, rfl, .tp (.cons .ns (.cons .ns (.cons (.pu trivial) .nil)))⟩
end Go.Ev

namespace Go.Ev
open Go.Proofs
set_option maxRecDepth 100000
def verR (yes many : Int) : Int := if yes = many then 1 else if yes = 0 then 2 else 3
theorem j_VerdictR (a b : Int) : PureF Try.prog p88.ix [.i .i64 a, .i .i64 b] (.i .i64 (verR a b)) := by
  refine PureF.run fn87 (by simp) (by simp [PuL, Pu]) ?_; conv => whnf
  unfold verR
  by_cases h1 : a = b
  · repeat' first | ((first | with_reducible apply WB.tt | with_reducible apply WB.ff | refine Rn.seq ?_ | refine Rn.reg ?_ | refine Rn.drw ?_ | refine Rn.blk ?_ | refine Rn.skip ?_ | refine Rn.ret ?_ | refine Rn.exit ?_ | refine Rn.cond rfl ?_ | refine And.intro (InR.i64 (by omega) (by omega)) ?_ | refine And.intro (show _ ≠ (0 : Int) by omega) ?_ | refine WIx.intsN (by omega) ?_ | refine WIx.rowsN (by omega) ?_ | with_reducible refine WB.decT (by first | with_reducible rfl | assumption | omega | exact ⟨rfl, rfl⟩) ?_ | with_reducible refine WB.decF (by first | assumption | omega) ?_ | with_reducible refine WB.ndT (by first | with_reducible rfl | assumption | omega | exact ⟨rfl, rfl⟩) ?_ | with_reducible refine WB.ndF (by first | assumption | omega) ?_ | with_reducible refine WB.nt ?_ | with_reducible refine WB.nf ?_ | with_reducible refine WB.dec (fun h => ?_) (fun h => ?_) | with_reducible refine WB.ndec (fun h => ?_) (fun h => ?_) | refine WB.mk (fun h => ?_) (fun h => ?_)) <;> conv => whnf)
    exact Fin.i rfl (by rw [if_pos h1])
  · by_cases h2 : a = 0
    · repeat' first | ((first | with_reducible apply WB.tt | with_reducible apply WB.ff | refine Rn.seq ?_ | refine Rn.reg ?_ | refine Rn.drw ?_ | refine Rn.blk ?_ | refine Rn.skip ?_ | refine Rn.ret ?_ | refine Rn.exit ?_ | refine Rn.cond rfl ?_ | refine And.intro (InR.i64 (by omega) (by omega)) ?_ | refine And.intro (show _ ≠ (0 : Int) by omega) ?_ | refine WIx.intsN (by omega) ?_ | refine WIx.rowsN (by omega) ?_ | with_reducible refine WB.decT (by first | with_reducible rfl | assumption | omega | exact ⟨rfl, rfl⟩) ?_ | with_reducible refine WB.decF (by first | assumption | omega) ?_ | with_reducible refine WB.ndT (by first | with_reducible rfl | assumption | omega | exact ⟨rfl, rfl⟩) ?_ | with_reducible refine WB.ndF (by first | assumption | omega) ?_ | with_reducible refine WB.nt ?_ | with_reducible refine WB.nf ?_ | with_reducible refine WB.dec (fun h => ?_) (fun h => ?_) | with_reducible refine WB.ndec (fun h => ?_) (fun h => ?_) | refine WB.mk (fun h => ?_) (fun h => ?_)) <;> conv => whnf)
      exact Fin.i rfl (by rw [if_neg h1, if_pos h2])
    · repeat' first | ((first | with_reducible apply WB.tt | with_reducible apply WB.ff | refine Rn.seq ?_ | refine Rn.reg ?_ | refine Rn.drw ?_ | refine Rn.blk ?_ | refine Rn.skip ?_ | refine Rn.ret ?_ | refine Rn.exit ?_ | refine Rn.cond rfl ?_ | refine And.intro (InR.i64 (by omega) (by omega)) ?_ | refine And.intro (show _ ≠ (0 : Int) by omega) ?_ | refine WIx.intsN (by omega) ?_ | refine WIx.rowsN (by omega) ?_ | with_reducible refine WB.decT (by first | with_reducible rfl | assumption | omega | exact ⟨rfl, rfl⟩) ?_ | with_reducible refine WB.decF (by first | assumption | omega) ?_ | with_reducible refine WB.ndT (by first | with_reducible rfl | assumption | omega | exact ⟨rfl, rfl⟩) ?_ | with_reducible refine WB.ndF (by first | assumption | omega) ?_ | with_reducible refine WB.nt ?_ | with_reducible refine WB.nf ?_ | with_reducible refine WB.dec (fun h => ?_) (fun h => ?_) | with_reducible refine WB.ndec (fun h => ?_) (fun h => ?_) | refine WB.mk (fun h => ?_) (fun h => ?_)) <;> conv => whnf)
      exact Fin.i rfl (by rw [if_neg h1, if_neg h2])
def yesN (p : List Ln → Bool) (L : List (List Ln)) : Int := ((L.filter p).length : Int)
theorem yesN_step {p : List Ln → Bool} {L : List (List Ln)} {j : Nat} (h : j < L.length) : yesN p (L.take (j + 1)) = yesN p (L.take j) + bif p (L.getD j default) then 1 else 0 := by
  unfold yesN
  rw [filter_take_succ (d := default) h, List.length_append]
  cases p (L.getD j default) <;> simp
theorem yesN_bd (p : List Ln → Bool) (L : List (List Ln)) (j : Nat) : 0 ≤ yesN p (L.take j) ∧ yesN p (L.take j) ≤ j := by
  unfold yesN
  have h1 := List.length_filter_le p (L.take j)
  rw [List.length_take] at h1
  omega
def cP (m : Nat) (c : Int) (t : List Ln) : Bool := decide (0 ≤ cOut t c m)
def tP (m : Nat) (c : Int) (t : List Ln) : Bool := decide (0 ≤ tOut t c m)
theorem j_ChairR (L : List (List Ln)) (m : Nat) (c : Int) (hl : L.length ≤ 4096) (ht : ∀ t ∈ L, t.length ≤ 1000 ∧ m ≤ t.length) : PureF Try.prog p37.ix [.lst 1 (rows tlD L), .i .i64 (m : Int), .i .i64 c] (.i .i64 (verR (yesN (cP m c) L) (L.length : Int))) := by
  have e1 := rows_length tlD L
  refine PureF.run fn36 (by simp) (by simp [PuL, Pu, pu_tl]) ?_; conv => whnf
  repeat' first | ((first | with_reducible apply WB.tt | with_reducible apply WB.ff | refine Rn.seq ?_ | refine Rn.reg ?_ | refine Rn.drw ?_ | refine Rn.blk ?_ | refine Rn.skip ?_ | refine Rn.ret ?_ | refine Rn.exit ?_ | refine Rn.cond rfl ?_ | refine And.intro (InR.i64 (by omega) (by omega)) ?_ | refine And.intro (show _ ≠ (0 : Int) by omega) ?_ | refine WIx.intsN (by omega) ?_ | refine WIx.rowsN (by omega) ?_) <;> conv => whnf)
  refine Rn.loop (fun j : Nat => ⟨(.n (.n (.n (.n .e (some (.i .i64 (yesN (cP m c) (L.take j)))) .e) none .e) (some (.i .i64 (m : Int))) .e) (some (.lst 1 (rows tlD L))) (.n (.n (.n .e (some (.i .i64 (j : Int))) .e) none .e) (some (.i .i64 c)) .e)), .e, .h, none⟩) (fun j => j ≤ L.length) (fun j => L.length - j) 0 ?_ ?_ ?_
  · (first | (refine X.le.mk ?_ ?_ (Nat.le_refl _) rfl rfl) | skip) <;> (repeat' first | exact T.le_e _ | refine T.le_some ?_ ?_ ?_ | refine T.le_none ?_ ?_ | rfl)
  · exact Nat.zero_le _
  intro j hj
  have hj : j ≤ L.length := hj
  have hbd := yesN_bd (cP m c) L j
  conv => whnf
  repeat' first | ((first | with_reducible apply WB.tt | with_reducible apply WB.ff | refine Rn.seq ?_ | refine Rn.reg ?_ | refine Rn.drw ?_ | refine Rn.blk ?_ | refine Rn.skip ?_ | refine Rn.ret ?_ | refine Rn.exit ?_ | refine Rn.cond rfl ?_ | refine And.intro (InR.i64 (by omega) (by omega)) ?_ | refine And.intro (show _ ≠ (0 : Int) by omega) ?_ | refine WIx.intsN (by omega) ?_ | refine WIx.rowsN (by omega) ?_) <;> conv => whnf)
  refine WB.dec (fun h => ?_) (fun h => ?_) <;> conv => whnf
  · have hlt : j < L.length := by omega
    have hs := yesN_step (p := cP m c) hlt
    have hp : cP m c (L.getD j default) = decide (0 ≤ cOut (L.getD j default) c m) := rfl
    have cO := j_ChairOut (L.getD j default) m c (ht _ (getD_mem hlt)).1 (ht _ (getD_mem hlt)).2
    by_cases h0 : 0 ≤ cOut (L.getD j default) c m
    · rw [hp, decide_eq_true h0, cond_true] at hs
      repeat' first | ((first | with_reducible apply WB.tt | with_reducible apply WB.ff | refine Rn.seq ?_ | refine Rn.reg ?_ | refine Rn.drw ?_ | refine Rn.blk ?_ | refine Rn.skip ?_ | refine Rn.ret ?_ | refine Rn.exit ?_ | refine Rn.cond rfl ?_ | refine And.intro (InR.i64 (by omega) (by omega)) ?_ | refine And.intro (show _ ≠ (0 : Int) by omega) ?_ | refine WIx.intsN (by omega) ?_ | refine WIx.rowsN (by omega) ?_ | refine WCall.pure (cO) ?_ | with_reducible refine WB.decT (by first | with_reducible rfl | assumption | omega | exact ⟨rfl, rfl⟩) ?_ | with_reducible refine WB.decF (by first | assumption | omega) ?_ | with_reducible refine WB.ndT (by first | with_reducible rfl | assumption | omega | exact ⟨rfl, rfl⟩) ?_ | with_reducible refine WB.ndF (by first | assumption | omega) ?_ | with_reducible refine WB.nt ?_ | with_reducible refine WB.nf ?_ | with_reducible refine WB.dec (fun h => ?_) (fun h => ?_) | with_reducible refine WB.ndec (fun h => ?_) (fun h => ?_) | refine WB.mk (fun h => ?_) (fun h => ?_)) <;> conv => whnf)
      refine Again.to (j + 1) (by omega) (by omega) (Nat.le_refl _) ?_
      rw [hs]
      (refine Shr.of ?_ ?_ rfl rfl) <;> (repeat' first | exact Rel.e | refine Rel.some ?_ ?_ ?_ | refine Rel.none ?_ ?_) <;> (try first | (show Fz _ _ _ _; first | exact Fz.pu trivial | (refine Fz.i ?_; first | rfl | omega) | (refine Fz.kpt ?_; (focus (show Pos.nat _ < Pos.nat _; simp [Pos.nat]; done))) | (refine Fz.ksl ?_; (focus (show Pos.nat _ < Pos.nat _; simp [Pos.nat]; done))) | (refine Fz.kmp ?_; (focus (show Pos.nat _ < Pos.nat _; simp [Pos.nat]; done))) | (refine Fz.pu ?_; simp [Cell.d, Pu, PuL, PuE, pu_ints, pu_ln, pu_ct, pu_tl]; done) | (refine Fz.pu ?_; simp only [Cell.d]; assumption)) | (refine RO'.of ?_ (ShC.same ?_); (focus (show Pos.nat _ < Pos.nat _; simp [Pos.nat]; done)); (repeat' first | exact ShC.nl | refine ShC.cn ?_ ?_) <;> first | exact Fz.pu trivial | (refine Fz.i ?_; first | rfl | omega) | (refine Fz.kpt ?_; (focus (show Pos.nat _ < Pos.nat _; simp [Pos.nat]; done))) | (refine Fz.ksl ?_; (focus (show Pos.nat _ < Pos.nat _; simp [Pos.nat]; done))) | (refine Fz.kmp ?_; (focus (show Pos.nat _ < Pos.nat _; simp [Pos.nat]; done))) | (refine Fz.pu ?_; simp [Cell.d, Pu, PuL, PuE, pu_ints, pu_ln, pu_ct, pu_tl]; done) | (refine Fz.pu ?_; simp only [Cell.d]; assumption)))
      all_goals exact Fz.pu (pu_tl _)
    · rw [hp, decide_eq_false h0, cond_false, Int.add_zero] at hs
      repeat' first | ((first | with_reducible apply WB.tt | with_reducible apply WB.ff | refine Rn.seq ?_ | refine Rn.reg ?_ | refine Rn.drw ?_ | refine Rn.blk ?_ | refine Rn.skip ?_ | refine Rn.ret ?_ | refine Rn.exit ?_ | refine Rn.cond rfl ?_ | refine And.intro (InR.i64 (by omega) (by omega)) ?_ | refine And.intro (show _ ≠ (0 : Int) by omega) ?_ | refine WIx.intsN (by omega) ?_ | refine WIx.rowsN (by omega) ?_ | refine WCall.pure (cO) ?_ | with_reducible refine WB.decT (by first | with_reducible rfl | assumption | omega | exact ⟨rfl, rfl⟩) ?_ | with_reducible refine WB.decF (by first | assumption | omega) ?_ | with_reducible refine WB.ndT (by first | with_reducible rfl | assumption | omega | exact ⟨rfl, rfl⟩) ?_ | with_reducible refine WB.ndF (by first | assumption | omega) ?_ | with_reducible refine WB.nt ?_ | with_reducible refine WB.nf ?_ | with_reducible refine WB.dec (fun h => ?_) (fun h => ?_) | with_reducible refine WB.ndec (fun h => ?_) (fun h => ?_) | refine WB.mk (fun h => ?_) (fun h => ?_)) <;> conv => whnf)
      refine Again.to (j + 1) (by omega) (by omega) (Nat.le_refl _) ?_
      rw [hs]
      (refine Shr.of ?_ ?_ rfl rfl) <;> (repeat' first | exact Rel.e | refine Rel.some ?_ ?_ ?_ | refine Rel.none ?_ ?_) <;> (try first | (show Fz _ _ _ _; first | exact Fz.pu trivial | (refine Fz.i ?_; first | rfl | omega) | (refine Fz.kpt ?_; (focus (show Pos.nat _ < Pos.nat _; simp [Pos.nat]; done))) | (refine Fz.ksl ?_; (focus (show Pos.nat _ < Pos.nat _; simp [Pos.nat]; done))) | (refine Fz.kmp ?_; (focus (show Pos.nat _ < Pos.nat _; simp [Pos.nat]; done))) | (refine Fz.pu ?_; simp [Cell.d, Pu, PuL, PuE, pu_ints, pu_ln, pu_ct, pu_tl]; done) | (refine Fz.pu ?_; simp only [Cell.d]; assumption)) | (refine RO'.of ?_ (ShC.same ?_); (focus (show Pos.nat _ < Pos.nat _; simp [Pos.nat]; done)); (repeat' first | exact ShC.nl | refine ShC.cn ?_ ?_) <;> first | exact Fz.pu trivial | (refine Fz.i ?_; first | rfl | omega) | (refine Fz.kpt ?_; (focus (show Pos.nat _ < Pos.nat _; simp [Pos.nat]; done))) | (refine Fz.ksl ?_; (focus (show Pos.nat _ < Pos.nat _; simp [Pos.nat]; done))) | (refine Fz.kmp ?_; (focus (show Pos.nat _ < Pos.nat _; simp [Pos.nat]; done))) | (refine Fz.pu ?_; simp [Cell.d, Pu, PuL, PuE, pu_ints, pu_ln, pu_ct, pu_tl]; done) | (refine Fz.pu ?_; simp only [Cell.d]; assumption)))
      all_goals exact Fz.pu (pu_tl _)
  · have hj' : j = L.length := by omega
    have cV := j_VerdictR (yesN (cP m c) (L.take j)) ((rows tlD L).length : Int)
    repeat' first | ((first | with_reducible apply WB.tt | with_reducible apply WB.ff | refine Rn.seq ?_ | refine Rn.reg ?_ | refine Rn.drw ?_ | refine Rn.blk ?_ | refine Rn.skip ?_ | refine Rn.ret ?_ | refine Rn.exit ?_ | refine Rn.cond rfl ?_ | refine And.intro (InR.i64 (by omega) (by omega)) ?_ | refine And.intro (show _ ≠ (0 : Int) by omega) ?_ | refine WIx.intsN (by omega) ?_ | refine WIx.rowsN (by omega) ?_ | refine WCall.pure (cV) ?_) <;> conv => whnf)
    exact Fin.i rfl (by rw [e1, List.take_of_length_le (by omega)])
theorem j_TokenR (L : List (List Ln)) (m : Nat) (c : Int) (hl : L.length ≤ 4096) (ht : ∀ t ∈ L, t.length ≤ 1000 ∧ m ≤ t.length) : PureF Try.prog p38.ix [.lst 1 (rows tlD L), .i .i64 (m : Int), .i .i64 c] (.i .i64 (verR (yesN (tP m c) L) (L.length : Int))) := by
  have e1 := rows_length tlD L
  refine PureF.run fn37 (by simp) (by simp [PuL, Pu, pu_tl]) ?_; conv => whnf
  repeat' first | ((first | with_reducible apply WB.tt | with_reducible apply WB.ff | refine Rn.seq ?_ | refine Rn.reg ?_ | refine Rn.drw ?_ | refine Rn.blk ?_ | refine Rn.skip ?_ | refine Rn.ret ?_ | refine Rn.exit ?_ | refine Rn.cond rfl ?_ | refine And.intro (InR.i64 (by omega) (by omega)) ?_ | refine And.intro (show _ ≠ (0 : Int) by omega) ?_ | refine WIx.intsN (by omega) ?_ | refine WIx.rowsN (by omega) ?_) <;> conv => whnf)
  refine Rn.loop (fun j : Nat => ⟨(.n (.n (.n (.n .e (some (.i .i64 (yesN (tP m c) (L.take j)))) .e) none .e) (some (.i .i64 (m : Int))) .e) (some (.lst 1 (rows tlD L))) (.n (.n (.n .e (some (.i .i64 (j : Int))) .e) none .e) (some (.i .i64 c)) .e)), .e, .h, none⟩) (fun j => j ≤ L.length) (fun j => L.length - j) 0 ?_ ?_ ?_
  · (first | (refine X.le.mk ?_ ?_ (Nat.le_refl _) rfl rfl) | skip) <;> (repeat' first | exact T.le_e _ | refine T.le_some ?_ ?_ ?_ | refine T.le_none ?_ ?_ | rfl)
  · exact Nat.zero_le _
  intro j hj
  have hj : j ≤ L.length := hj
  have hbd := yesN_bd (tP m c) L j
  conv => whnf
  repeat' first | ((first | with_reducible apply WB.tt | with_reducible apply WB.ff | refine Rn.seq ?_ | refine Rn.reg ?_ | refine Rn.drw ?_ | refine Rn.blk ?_ | refine Rn.skip ?_ | refine Rn.ret ?_ | refine Rn.exit ?_ | refine Rn.cond rfl ?_ | refine And.intro (InR.i64 (by omega) (by omega)) ?_ | refine And.intro (show _ ≠ (0 : Int) by omega) ?_ | refine WIx.intsN (by omega) ?_ | refine WIx.rowsN (by omega) ?_) <;> conv => whnf)
  refine WB.dec (fun h => ?_) (fun h => ?_) <;> conv => whnf
  · have hlt : j < L.length := by omega
    have hs := yesN_step (p := tP m c) hlt
    have hp : tP m c (L.getD j default) = decide (0 ≤ tOut (L.getD j default) c m) := rfl
    have cO := j_TokenOut (L.getD j default) m c (ht _ (getD_mem hlt)).1 (ht _ (getD_mem hlt)).2
    by_cases h0 : 0 ≤ tOut (L.getD j default) c m
    · rw [hp, decide_eq_true h0, cond_true] at hs
      repeat' first | ((first | with_reducible apply WB.tt | with_reducible apply WB.ff | refine Rn.seq ?_ | refine Rn.reg ?_ | refine Rn.drw ?_ | refine Rn.blk ?_ | refine Rn.skip ?_ | refine Rn.ret ?_ | refine Rn.exit ?_ | refine Rn.cond rfl ?_ | refine And.intro (InR.i64 (by omega) (by omega)) ?_ | refine And.intro (show _ ≠ (0 : Int) by omega) ?_ | refine WIx.intsN (by omega) ?_ | refine WIx.rowsN (by omega) ?_ | refine WCall.pure (cO) ?_ | with_reducible refine WB.decT (by first | with_reducible rfl | assumption | omega | exact ⟨rfl, rfl⟩) ?_ | with_reducible refine WB.decF (by first | assumption | omega) ?_ | with_reducible refine WB.ndT (by first | with_reducible rfl | assumption | omega | exact ⟨rfl, rfl⟩) ?_ | with_reducible refine WB.ndF (by first | assumption | omega) ?_ | with_reducible refine WB.nt ?_ | with_reducible refine WB.nf ?_ | with_reducible refine WB.dec (fun h => ?_) (fun h => ?_) | with_reducible refine WB.ndec (fun h => ?_) (fun h => ?_) | refine WB.mk (fun h => ?_) (fun h => ?_)) <;> conv => whnf)
      refine Again.to (j + 1) (by omega) (by omega) (Nat.le_refl _) ?_
      rw [hs]
      (refine Shr.of ?_ ?_ rfl rfl) <;> (repeat' first | exact Rel.e | refine Rel.some ?_ ?_ ?_ | refine Rel.none ?_ ?_) <;> (try first | (show Fz _ _ _ _; first | exact Fz.pu trivial | (refine Fz.i ?_; first | rfl | omega) | (refine Fz.kpt ?_; (focus (show Pos.nat _ < Pos.nat _; simp [Pos.nat]; done))) | (refine Fz.ksl ?_; (focus (show Pos.nat _ < Pos.nat _; simp [Pos.nat]; done))) | (refine Fz.kmp ?_; (focus (show Pos.nat _ < Pos.nat _; simp [Pos.nat]; done))) | (refine Fz.pu ?_; simp [Cell.d, Pu, PuL, PuE, pu_ints, pu_ln, pu_ct, pu_tl]; done) | (refine Fz.pu ?_; simp only [Cell.d]; assumption)) | (refine RO'.of ?_ (ShC.same ?_); (focus (show Pos.nat _ < Pos.nat _; simp [Pos.nat]; done)); (repeat' first | exact ShC.nl | refine ShC.cn ?_ ?_) <;> first | exact Fz.pu trivial | (refine Fz.i ?_; first | rfl | omega) | (refine Fz.kpt ?_; (focus (show Pos.nat _ < Pos.nat _; simp [Pos.nat]; done))) | (refine Fz.ksl ?_; (focus (show Pos.nat _ < Pos.nat _; simp [Pos.nat]; done))) | (refine Fz.kmp ?_; (focus (show Pos.nat _ < Pos.nat _; simp [Pos.nat]; done))) | (refine Fz.pu ?_; simp [Cell.d, Pu, PuL, PuE, pu_ints, pu_ln, pu_ct, pu_tl]; done) | (refine Fz.pu ?_; simp only [Cell.d]; assumption)))
      all_goals exact Fz.pu (pu_tl _)
    · rw [hp, decide_eq_false h0, cond_false, Int.add_zero] at hs
      repeat' first | ((first | with_reducible apply WB.tt | with_reducible apply WB.ff | refine Rn.seq ?_ | refine Rn.reg ?_ | refine Rn.drw ?_ | refine Rn.blk ?_ | refine Rn.skip ?_ | refine Rn.ret ?_ | refine Rn.exit ?_ | refine Rn.cond rfl ?_ | refine And.intro (InR.i64 (by omega) (by omega)) ?_ | refine And.intro (show _ ≠ (0 : Int) by omega) ?_ | refine WIx.intsN (by omega) ?_ | refine WIx.rowsN (by omega) ?_ | refine WCall.pure (cO) ?_ | with_reducible refine WB.decT (by first | with_reducible rfl | assumption | omega | exact ⟨rfl, rfl⟩) ?_ | with_reducible refine WB.decF (by first | assumption | omega) ?_ | with_reducible refine WB.ndT (by first | with_reducible rfl | assumption | omega | exact ⟨rfl, rfl⟩) ?_ | with_reducible refine WB.ndF (by first | assumption | omega) ?_ | with_reducible refine WB.nt ?_ | with_reducible refine WB.nf ?_ | with_reducible refine WB.dec (fun h => ?_) (fun h => ?_) | with_reducible refine WB.ndec (fun h => ?_) (fun h => ?_) | refine WB.mk (fun h => ?_) (fun h => ?_)) <;> conv => whnf)
      refine Again.to (j + 1) (by omega) (by omega) (Nat.le_refl _) ?_
      rw [hs]
      (refine Shr.of ?_ ?_ rfl rfl) <;> (repeat' first | exact Rel.e | refine Rel.some ?_ ?_ ?_ | refine Rel.none ?_ ?_) <;> (try first | (show Fz _ _ _ _; first | exact Fz.pu trivial | (refine Fz.i ?_; first | rfl | omega) | (refine Fz.kpt ?_; (focus (show Pos.nat _ < Pos.nat _; simp [Pos.nat]; done))) | (refine Fz.ksl ?_; (focus (show Pos.nat _ < Pos.nat _; simp [Pos.nat]; done))) | (refine Fz.kmp ?_; (focus (show Pos.nat _ < Pos.nat _; simp [Pos.nat]; done))) | (refine Fz.pu ?_; simp [Cell.d, Pu, PuL, PuE, pu_ints, pu_ln, pu_ct, pu_tl]; done) | (refine Fz.pu ?_; simp only [Cell.d]; assumption)) | (refine RO'.of ?_ (ShC.same ?_); (focus (show Pos.nat _ < Pos.nat _; simp [Pos.nat]; done)); (repeat' first | exact ShC.nl | refine ShC.cn ?_ ?_) <;> first | exact Fz.pu trivial | (refine Fz.i ?_; first | rfl | omega) | (refine Fz.kpt ?_; (focus (show Pos.nat _ < Pos.nat _; simp [Pos.nat]; done))) | (refine Fz.ksl ?_; (focus (show Pos.nat _ < Pos.nat _; simp [Pos.nat]; done))) | (refine Fz.kmp ?_; (focus (show Pos.nat _ < Pos.nat _; simp [Pos.nat]; done))) | (refine Fz.pu ?_; simp [Cell.d, Pu, PuL, PuE, pu_ints, pu_ln, pu_ct, pu_tl]; done) | (refine Fz.pu ?_; simp only [Cell.d]; assumption)))
      all_goals exact Fz.pu (pu_tl _)
  · have hj' : j = L.length := by omega
    have cV := j_VerdictR (yesN (tP m c) (L.take j)) ((rows tlD L).length : Int)
    repeat' first | ((first | with_reducible apply WB.tt | with_reducible apply WB.ff | refine Rn.seq ?_ | refine Rn.reg ?_ | refine Rn.drw ?_ | refine Rn.blk ?_ | refine Rn.skip ?_ | refine Rn.ret ?_ | refine Rn.exit ?_ | refine Rn.cond rfl ?_ | refine And.intro (InR.i64 (by omega) (by omega)) ?_ | refine And.intro (show _ ≠ (0 : Int) by omega) ?_ | refine WIx.intsN (by omega) ?_ | refine WIx.rowsN (by omega) ?_ | refine WCall.pure (cV) ?_) <;> conv => whnf)
    exact Fin.i rfl (by rw [e1, List.take_of_length_le (by omega)])
theorem len_filter_all {α : Type} {p : α → Bool} {L : List α} : (L.filter p).length = L.length ↔ ∀ x ∈ L, p x = true := by
  induction L with
  | nil => simp
  | cons a L ih =>
    have h1 := List.length_filter_le p L
    cases h : p a with
    | true => 
      rw [List.filter_cons_of_pos h, List.length_cons, List.length_cons, List.forall_mem_cons, ← ih]
      constructor
      · intro h2; exact ⟨h, by omega⟩
      · intro h2; have := h2.2; omega
    | false =>
      rw [List.filter_cons_of_neg (by rw [h]; simp), List.length_cons]
      constructor
      · intro h2; omega
      · intro h2; have := h2 a List.mem_cons_self; rw [h] at this; cases this
theorem len_filter_none {α : Type} {p : α → Bool} {L : List α} : (L.filter p).length = 0 ↔ ∀ x ∈ L, p x = false := by
  rw [List.length_eq_zero_iff, List.filter_eq_nil_iff]
  constructor
  · intro h x hx; have := h x hx; cases hp : p x with
    | true => exact absurd hp this
    | false => rfl
  · intro h x hx; rw [h x hx]; simp
theorem ver_same {A : List Int} {L : List (List Ln)} {p : List Ln → Bool} (hne : A ≠ []) (hs : ∀ x, x ∈ A ↔ x ∈ L.map fun t => b2i (p t)) : vdT (A.foldl min (A.getD 0 0)) (A.foldl max (A.getD 0 0)) = verR (yesN p L) (L.length : Int) := by
  have hA := getD0_mem hne
  obtain ⟨a1, a2, a3⟩ := foldl_minJ A (A.getD 0 0)
  obtain ⟨c1, c2, c3⟩ := foldl_maxJ A (A.getD 0 0)
  have m1 : A.foldl min (A.getD 0 0) ∈ A := by
    rcases a3 with h | h
    · rw [h]; exact hA
    · exact h
  have m2 : A.foldl max (A.getD 0 0) ∈ A := by
    rcases c3 with h | h
    · rw [h]; exact hA
    · exact h
  obtain ⟨t1, ht1, e1⟩ := List.mem_map.1 ((hs _).1 m1)
  obtain ⟨t2, ht2, e2⟩ := List.mem_map.1 ((hs _).1 m2)
  have hmem : ∀ t ∈ L, A.foldl min (A.getD 0 0) ≤ b2i (p t) ∧ b2i (p t) ≤ A.foldl max (A.getD 0 0) := fun t ht => by
    have := (hs (b2i (p t))).2 (List.mem_map.2 ⟨t, ht, rfl⟩)
    exact ⟨a2 _ this, c2 _ this⟩
  have h0 : L.length ≠ 0 := fun h => by
    rw [List.length_eq_zero_iff.1 h] at ht1; cases ht1
  generalize A.foldl min (A.getD 0 0) = lo at *
  generalize A.foldl max (A.getD 0 0) = hi at *
  unfold vdT verR yesN
  cases q1 : p t1 with
  | true =>
    rw [q1] at e1
    have e1 : (1 : Int) = lo := e1
    have hall : ∀ t ∈ L, p t = true := fun t ht => by
      have := (hmem t ht).1
      cases h : p t with
      | true => rfl
      | false => rw [h] at this; have : lo ≤ 0 := this; omega
    have e2 : (1 : Int) = hi := by rw [hall t2 ht2] at e2; exact e2
    rw [if_pos (show lo = 1 ∧ hi = 1 from ⟨by omega, by omega⟩), if_pos (by rw [len_filter_all.2 hall])]
  | false =>
    rw [q1] at e1
    have e1 : (0 : Int) = lo := e1
    have hn1 : ¬ (L.filter p).length = L.length := fun h => by
      have := len_filter_all.1 h t1 ht1
      rw [q1] at this; cases this
    rw [if_neg (show ¬ (lo = 1 ∧ hi = 1) from fun h => by omega), if_neg (show ¬ ((L.filter p).length : Int) = (L.length : Int) from fun h => hn1 (by omega))]
    cases q2 : p t2 with
    | false =>
      rw [q2] at e2
      have e2 : (0 : Int) = hi := e2
      have hnone : ∀ t ∈ L, p t = false := fun t ht => by
        have := (hmem t ht).2
        cases h : p t with
        | false => rfl
        | true => rw [h] at this; have : 1 ≤ hi := this; omega
      rw [if_pos (show lo = 0 ∧ hi = 0 from ⟨by omega, by omega⟩), if_pos (show ((L.filter p).length : Int) = 0 from by rw [len_filter_none.2 hnone]; rfl)]
    | true =>
      rw [q2] at e2
      have e2 : (1 : Int) = hi := e2
      have hn2 : ¬ (L.filter p).length = 0 := fun h => by
        have := len_filter_none.1 h t2 ht2
        rw [q2] at this; cases this
      rw [if_neg (show ¬ (lo = 0 ∧ hi = 0) from fun h => by omega), if_neg (show ¬ ((L.filter p).length : Int) = 0 from fun h => hn2 (by omega))]
theorem vd_ref {B : Bk} (V : VB B) {aft x : Nat} (hx : x < 8) (hne : exT B B.ls.length [] ≠ []) : vdO B aft x = if x < 4 then verR (yesN (cP aft (x : Int)) (refT B)) ((refT B).length : Int) else verR (yesN (tP aft ((x - 4 : Nat) : Int)) (refT B)) ((refT B).length : Int) := by
  unfold vdO outA
  by_cases h4 : x < 4
  · rw [if_pos h4]
    refine ver_same (ans_ne hne) (mem_ans V fun X => ?_)
    show min ((if x < 4 then cOut X (x : Int) aft + 1 else _) : Int) 1 = b2i (decide (0 ≤ cOut X (x : Int) aft))
    rw [if_pos h4]
    have := cOut_bd X (x : Int) aft
    by_cases h : 0 ≤ cOut X (x : Int) aft
    · rw [decide_eq_true h]; show _ = (1 : Int); omega
    · rw [decide_eq_false h]; show _ = (0 : Int); omega
  · rw [if_neg h4]
    refine ver_same (ans_ne hne) (mem_ans V fun X => ?_)
    show min ((if x < 4 then _ else tOut X ((x - 4 : Nat) : Int) aft + 1) : Int) 1 = b2i (decide (0 ≤ tOut X ((x - 4 : Nat) : Int) aft))
    rw [if_neg h4]
    have := tOut_bd X ((x - 4 : Nat) : Int) aft
    by_cases h : 0 ≤ tOut X ((x - 4 : Nat) : Int) aft
    · rw [decide_eq_true h]; show _ = (1 : Int); omega
    · rw [decide_eq_false h]; show _ = (0 : Int); omega
theorem sE_bad {n coin box : Int} {ls : List Ln} {cs : List Ct} (h : faultT n coin box ls cs ≠ 0) (t : Bool) : sE n coin box ls cs t = faultT n coin box ls cs := by unfold sE; rw [if_pos h]
theorem sE_away {n coin box : Int} {ls : List Ln} {cs : List Ct} (h : faultT n coin box ls cs = 0) : sE n coin box ls cs false = 2 := by unfold sE; rw [if_neg (fun k => k h)]; rfl
theorem sE_false {n coin box : Int} {ls : List Ln} {cs : List Ct} (h : faultT n coin box ls cs = 0) (hb : hasB (B5 n coin box ls cs) = false) : sE n coin box ls cs true = 11 := by unfold sE; rw [if_neg (fun k => k h), hb]; rfl
theorem sE_true {n coin box : Int} {ls : List Ln} {cs : List Ct} (h : faultT n coin box ls cs = 0) (hb : hasB (B5 n coin box ls cs) = true) : sE n coin box ls cs true = 0 := by unfold sE; rw [if_neg (fun k => k h), hb]; rfl
end Go.Ev

namespace Go.Ev
open Go.Proofs
theorem fit_lines : ∀ {es : List (List D)}, (∀ x ∈ es, FitL [.i .i64, .i .i64, .i .i64] x) → ∃ l : List Ln, es = rows lnD l ∧ ∀ r ∈ l, lnWf r
  | [], _ => ⟨[], rfl, fun r h => by cases h⟩
  | x :: es, h => by
    obtain ⟨l, rfl, hl⟩ := fit_lines (es := es) fun y hy => h y (by simp [hy])
    have h1 := h x (by simp)
    simp only [FitL, FitC] at h1
    obtain ⟨d, ds, rfl, ⟨n1, rfl, w1⟩, d2, ds2, rfl, ⟨n2, rfl, w2⟩, d3, ds3, rfl, ⟨n3, rfl, w3⟩, rfl⟩ := h1
    refine ⟨⟨n1, n2, n3⟩ :: l, rfl, fun r hr => ?_⟩
    rcases List.mem_cons.1 hr with rfl | hr
    · exact ⟨wfB_of w1, wfB_of w2, wfB_of w3⟩
    · exact hl r hr
theorem fit_counts : ∀ {es : List (List D)}, (∀ x ∈ es, FitL [.i .i64, .i .i64, .i .i64] x) → ∃ l : List Ct, es = rows ctD l
  | [], _ => ⟨[], rfl⟩
  | x :: es, h => by
    obtain ⟨l, rfl⟩ := fit_counts (es := es) fun y hy => h y (by simp [hy])
    have h1 := h x (by simp)
    simp only [FitL, FitC] at h1
    obtain ⟨d, ds, rfl, ⟨n1, rfl, w1⟩, d2, ds2, rfl, ⟨n2, rfl, w2⟩, d3, ds3, rfl, ⟨n3, rfl, w3⟩, rfl⟩ := h1
    exact ⟨⟨n1, n2, n3⟩ :: l, rfl⟩
theorem FitP.book {ps : List (Bool × List CK)} {ds : List D} (h : FitP ((true, [.i .i64, .i .i64, .i .i64, .sl [.i .i64, .i .i64, .i .i64], .sl [.i .i64, .i .i64, .i .i64]]) :: ps) ds) : ∃ n coin box ls cs ds', ds = .ag [.i .i64 n, .i .i64 coin, .i .i64 box, .lst 3 (rows lnD ls), .lst 3 (rows ctD cs)] :: ds' ∧ FitP ps ds' := by
  unfold FitP at h
  obtain ⟨es, ds', rfl, h1, h2⟩ := h
  simp only [FitL, FitC] at h1
  obtain ⟨d, ds, rfl, ⟨n1, rfl, _⟩, d2, ds2, rfl, ⟨n2, rfl, _⟩, d3, ds3, rfl, ⟨n3, rfl, _⟩, d4, ds4, rfl, ⟨e4, rfl, k4⟩, d5, ds5, rfl, ⟨e5, rfl, k5⟩, rfl⟩ := h1
  obtain ⟨ls, rfl, _⟩ := fit_lines fun x hx => by have := k4 x hx; simpa only [FitL, FitC] using this
  obtain ⟨cs, rfl⟩ := fit_counts fun x hx => by have := k5 x hx; simpa only [FitL, FitC] using this
  exact ⟨n1, n2, n3, ls, cs, ds', rfl, h2⟩
end Go.Ev
