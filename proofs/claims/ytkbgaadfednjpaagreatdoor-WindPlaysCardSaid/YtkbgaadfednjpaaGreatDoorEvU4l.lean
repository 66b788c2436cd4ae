import Derived.Test.YtkbgaadfednjpaaGreatDoorEvU4j
set_option linter.all false
set_option maxHeartbeats 8000000
noncomputable section
namespace Go.Ev
open Go.Proofs
set_option maxRecDepth 100000
theorem WSt.ixaP {sl : T D} {ob : T C} {nx : Pos} {lg : Option (T Bool)} {K : X → Prop} {d : Pos} {len z off m : Nat} {k : IntKind} {x i : RX} {n : Int} {r : List D} (hx : bO sl x = some (.pl r off)) (hi : bO sl i = some (.i k n)) (hn : n = (m : Int)) (hm : m < len) (h : eT sl ob nx lg d K (.pl r (off + m * z))) : WSt (.ixa d len z x i) ⟨sl, ob, nx, lg⟩ K := by
  obtain ⟨h2, h3⟩ := bF h
  refine ⟨_, ?_, h3⟩
  show nV d len z x i sl ob nx lg = _
  unfold nV
  rw [hx, hi, hn]
  have e : BV (m : Int) len = some m := by
    show (bif Nat.blt m len then some m else none) = _
    rw [show Nat.blt m len = true from Nat.ble_eq_true_of_le hm]
    rfl
  simp only [e, bG]
  exact h2
def rD (l : List (Int × Int)) (p : Int × Int) : Bool := l.any fun q => decide (p.1 = q.1 ∧ p.2 = q.2)
def BS (p : Int × Int) : Prop := i64 p.1 ∧ i64 p.2
theorem Dr (l : List (Int × Int)) (p : Int × Int) (hl : l.length ≤ 1000) (hp : BS p) (hq : ∀ q ∈ l, BS q) : ∃ v, (∃ n : Int, v = .i .i64 n ∧ decide (0 ≤ n) = rD l p) ∧ PureF Tryz.prog p162.ix [.lst 2 (aD bL l), .ag (bL p)] v := by
  have e1 := aK bL l
  refine PureF.runE Ha (by simp) (by simp [aT, dU, Pu, aN, bL]) ?_; conv => whnf
  repeat' first | ((first | with_reducible apply WB.tt | with_reducible apply WB.ff | refine Rn.seq ?_ | refine Rn.reg ?_ | refine Rn.drw ?_ | refine Rn.blk ?_ | refine Rn.skip ?_ | refine Rn.ret ?_ | refine Rn.exit ?_ | refine Rn.cond rfl ?_ | refine And.intro (InR.i64 (by omega) (by omega)) ?_ | refine And.intro (show _ ≠ (0 : Int) by omega) ?_ | refine WIx.intsN (by omega) ?_ | refine WIx.rowsN (by omega) ?_ | with_reducible refine WB.decT (by first | with_reducible rfl | assumption | omega | exact ⟨rfl, rfl⟩) ?_ | with_reducible refine WB.decF (by first | assumption | omega) ?_ | with_reducible refine WB.ndT (by first | with_reducible rfl | assumption | omega | exact ⟨rfl, rfl⟩) ?_ | with_reducible refine WB.ndF (by first | assumption | omega) ?_ | with_reducible refine WB.nt ?_ | with_reducible refine WB.nf ?_) <;> conv => whnf) | (refine WB.tt ?_; conv => whnf) | (refine WB.ff ?_; conv => whnf)
  refine Rn.loop (fun j : Nat => ⟨(.n (.n (.n (.n .e (some (.i .i64 (l.length : Int))) .e) (some (.pt .h 0 0)) .e) none .e) (some (.lst 2 (aD bL l))) (.n (.n (.n .e (some (.i .i64 (j : Int))) .e) none .e) none .e)), .n .e (some (.cells false ((bL p).map fun d => Cell.o d 0) 1)) .e, .o .h, none⟩) (fun j => j ≤ l.length ∧ (l.take j).any (fun q => decide (p.1 = q.1 ∧ p.2 = q.2)) = false) (fun j => l.length - j) 0 ?_ ⟨Nat.zero_le _, by simp⟩ ?_
  · refine X.le.mk ?_ ?_ (Nat.le_refl _) rfl rfl
    all_goals (try rw [← e1])
    all_goals (repeat' first | exact T.le_e _ | exact T.le_refl _ | refine T.le_some ?_ rfl ?_ | refine T.le_none ?_ ?_ | refine T.le_ee ?_ ?_)
  rintro j ⟨hj, ha⟩
  conv => whnf
  repeat' first | ((first | with_reducible apply WB.tt | with_reducible apply WB.ff | refine Rn.seq ?_ | refine Rn.reg ?_ | refine Rn.drw ?_ | refine Rn.blk ?_ | refine Rn.skip ?_ | refine Rn.ret ?_ | refine Rn.exit ?_ | refine Rn.cond rfl ?_ | refine And.intro (InR.i64 (by omega) (by omega)) ?_ | refine And.intro (show _ ≠ (0 : Int) by omega) ?_ | refine WIx.intsN (by omega) ?_ | refine WIx.rowsN (by omega) ?_ | with_reducible refine WB.decT (by first | with_reducible rfl | assumption | omega | exact ⟨rfl, rfl⟩) ?_ | with_reducible refine WB.decF (by first | assumption | omega) ?_ | with_reducible refine WB.ndT (by first | with_reducible rfl | assumption | omega | exact ⟨rfl, rfl⟩) ?_ | with_reducible refine WB.ndF (by first | assumption | omega) ?_ | with_reducible refine WB.nt ?_ | with_reducible refine WB.nf ?_) <;> conv => whnf) | (refine WB.tt ?_; conv => whnf) | (refine WB.ff ?_; conv => whnf)
  refine WB.dec (fun h => ?_) (fun h => ?_) <;> conv => whnf
  · have hlt : j < l.length := by omega
    have hqj := hq _ (aR (d := default) hlt)
    repeat' first | ((first | with_reducible apply WB.tt | with_reducible apply WB.ff | refine Rn.seq ?_ | refine Rn.reg ?_ | refine Rn.drw ?_ | refine Rn.blk ?_ | refine Rn.skip ?_ | refine Rn.ret ?_ | refine Rn.exit ?_ | refine Rn.cond rfl ?_ | refine And.intro (InR.i64 (by omega) (by omega)) ?_ | refine And.intro (show _ ≠ (0 : Int) by omega) ?_ | refine WIx.intsN (by omega) ?_ | refine WIx.rowsN (by omega) ?_ | with_reducible refine WB.decT (by first | with_reducible rfl | assumption | omega | exact ⟨rfl, rfl⟩) ?_ | with_reducible refine WB.decF (by first | assumption | omega) ?_ | with_reducible refine WB.ndT (by first | with_reducible rfl | assumption | omega | exact ⟨rfl, rfl⟩) ?_ | with_reducible refine WB.ndF (by first | assumption | omega) ?_ | with_reducible refine WB.nt ?_ | with_reducible refine WB.nf ?_) <;> conv => whnf) | (refine WB.tt ?_; conv => whnf) | (refine WB.ff ?_; conv => whnf)
    refine WSt.eqr2 (a := p.1) (b := p.2) (a' := (l.getD j default).1) (b' := (l.getD j default).2) rfl rfl (fV hp.1) (fV hp.2) (fV hqj.1) (fV hqj.2) ?_; conv => whnf
    repeat' first | ((first | with_reducible apply WB.tt | with_reducible apply WB.ff | refine Rn.seq ?_ | refine Rn.reg ?_ | refine Rn.drw ?_ | refine Rn.blk ?_ | refine Rn.skip ?_ | refine Rn.ret ?_ | refine Rn.exit ?_ | refine Rn.cond rfl ?_ | refine And.intro (InR.i64 (by omega) (by omega)) ?_ | refine And.intro (show _ ≠ (0 : Int) by omega) ?_ | refine WIx.intsN (by omega) ?_ | refine WIx.rowsN (by omega) ?_ | with_reducible refine WB.decT (by first | with_reducible rfl | assumption | omega | exact ⟨rfl, rfl⟩) ?_ | with_reducible refine WB.decF (by first | assumption | omega) ?_ | with_reducible refine WB.ndT (by first | with_reducible rfl | assumption | omega | exact ⟨rfl, rfl⟩) ?_ | with_reducible refine WB.ndF (by first | assumption | omega) ?_ | with_reducible refine WB.nt ?_ | with_reducible refine WB.nf ?_) <;> conv => whnf) | (refine WB.tt ?_; conv => whnf) | (refine WB.ff ?_; conv => whnf)
    refine WB.dec (fun h2 => ?_) (fun h2 => ?_) <;> conv => whnf
    · repeat' first | ((first | with_reducible apply WB.tt | with_reducible apply WB.ff | refine Rn.seq ?_ | refine Rn.reg ?_ | refine Rn.drw ?_ | refine Rn.blk ?_ | refine Rn.skip ?_ | refine Rn.ret ?_ | refine Rn.exit ?_ | refine Rn.cond rfl ?_ | refine And.intro (InR.i64 (by omega) (by omega)) ?_ | refine And.intro (show _ ≠ (0 : Int) by omega) ?_ | refine WIx.intsN (by omega) ?_ | refine WIx.rowsN (by omega) ?_ | with_reducible refine WB.decT (by first | with_reducible rfl | assumption | omega | exact ⟨rfl, rfl⟩) ?_ | with_reducible refine WB.decF (by first | assumption | omega) ?_ | with_reducible refine WB.ndT (by first | with_reducible rfl | assumption | omega | exact ⟨rfl, rfl⟩) ?_ | with_reducible refine WB.ndF (by first | assumption | omega) ?_ | with_reducible refine WB.nt ?_ | with_reducible refine WB.nf ?_) <;> conv => whnf) | (refine WB.tt ?_; conv => whnf) | (refine WB.ff ?_; conv => whnf)
      refine ⟨_, ⟨(j : Int), rfl, ?_⟩, Fin.i rfl rfl⟩
      rw [decide_eq_true (by omega)]
      exact (iD (d := default) hlt (decide_eq_true h2)).symm
    · repeat' first | ((first | with_reducible apply WB.tt | with_reducible apply WB.ff | refine Rn.seq ?_ | refine Rn.reg ?_ | refine Rn.drw ?_ | refine Rn.blk ?_ | refine Rn.skip ?_ | refine Rn.ret ?_ | refine Rn.exit ?_ | refine Rn.cond rfl ?_ | refine And.intro (InR.i64 (by omega) (by omega)) ?_ | refine And.intro (show _ ≠ (0 : Int) by omega) ?_ | refine WIx.intsN (by omega) ?_ | refine WIx.rowsN (by omega) ?_ | with_reducible refine WB.decT (by first | with_reducible rfl | assumption | omega | exact ⟨rfl, rfl⟩) ?_ | with_reducible refine WB.decF (by first | assumption | omega) ?_ | with_reducible refine WB.ndT (by first | with_reducible rfl | assumption | omega | exact ⟨rfl, rfl⟩) ?_ | with_reducible refine WB.ndF (by first | assumption | omega) ?_ | with_reducible refine WB.nt ?_ | with_reducible refine WB.nf ?_) <;> conv => whnf) | (refine WB.tt ?_; conv => whnf) | (refine WB.ff ?_; conv => whnf)
      refine Again.to (j + 1) (by omega) ⟨by omega, by rw [dG (d := default) hlt, ha, decide_eq_false h2]; rfl⟩ (Nat.le_refl _) ?_
      refine Shr.of ?_ ?_ rfl rfl
      · show Rel _ _ ((.n (.n (.n (.n .e (some (.i .i64 (l.length : Int))) .e) (some (.pt .h 0 0)) .e) none .e) (some (.lst 2 (aD bL l))) (.n (.n (.n .e (some (.i .i64 ((j + 1 : Nat) : Int))) .e) none .e) none .e)) : T D) _
        (repeat' first | exact Rel.e | refine Rel.some ?_ ?_ ?_ | refine Rel.none ?_ ?_ | refine Rel.ee ?_ ?_)
        all_goals show Fz _ _ _ _
        all_goals first | exact .pu trivial | exact .pu (aN _) | exact .kpt (show _ < 2 by simp [Pos.nat])
      · show Rel _ _ (.n .e (some (.cells false ((bL p).map fun d => Cell.o d 0) 1)) .e : T C) _
        (repeat' first | exact Rel.e | refine Rel.some ?_ ?_ ?_ | refine Rel.none ?_ ?_ | refine Rel.ee ?_ ?_)
        all_goals exact RO'.of (show _ < 2 by simp [Pos.nat]) (ShC.same (ShC.cn (.pu trivial) (ShC.cn (.pu trivial) ShC.nl)))
  · obtain rfl : j = l.length := by omega
    repeat' first | ((first | with_reducible apply WB.tt | with_reducible apply WB.ff | refine Rn.seq ?_ | refine Rn.reg ?_ | refine Rn.drw ?_ | refine Rn.blk ?_ | refine Rn.skip ?_ | refine Rn.ret ?_ | refine Rn.exit ?_ | refine Rn.cond rfl ?_ | refine And.intro (InR.i64 (by omega) (by omega)) ?_ | refine And.intro (show _ ≠ (0 : Int) by omega) ?_ | refine WIx.intsN (by omega) ?_ | refine WIx.rowsN (by omega) ?_ | with_reducible refine WB.decT (by first | with_reducible rfl | assumption | omega | exact ⟨rfl, rfl⟩) ?_ | with_reducible refine WB.decF (by first | assumption | omega) ?_ | with_reducible refine WB.ndT (by first | with_reducible rfl | assumption | omega | exact ⟨rfl, rfl⟩) ?_ | with_reducible refine WB.ndF (by first | assumption | omega) ?_ | with_reducible refine WB.nt ?_ | with_reducible refine WB.nf ?_) <;> conv => whnf) | (refine WB.tt ?_; conv => whnf) | (refine WB.ff ?_; conv => whnf)
    refine ⟨_, ⟨-1, rfl, ?_⟩, Fin.i rfl rfl⟩
    rw [decide_eq_false (by omega)]
    exact (fX ha).symm
theorem xF (l : List (Int × Int)) (p : Int × Int) (hl : l.length ≤ 1000) (hp : BS p) (hq : ∀ q ∈ l, BS q) : PureF Tryz.prog p160.ix [.lst 2 (aD bL l), .ag (bL p)] (.b (rD l p)) := by
  obtain ⟨v, ⟨n, rfl, hn⟩, C⟩ := Dr l p hl hp hq
  refine PureF.run IZ (by simp) (by simp [aT, dU, Pu, aN, bL]) ?_; conv => whnf
  repeat' first | ((first | with_reducible apply WB.tt | with_reducible apply WB.ff | refine Rn.seq ?_ | refine Rn.reg ?_ | refine Rn.drw ?_ | refine Rn.blk ?_ | refine Rn.skip ?_ | refine Rn.ret ?_ | refine Rn.exit ?_ | refine Rn.cond rfl ?_ | refine And.intro (InR.i64 (by omega) (by omega)) ?_ | refine And.intro (show _ ≠ (0 : Int) by omega) ?_ | refine WIx.intsN (by omega) ?_ | refine WIx.rowsN (by omega) ?_ | refine WCall.pure (C) ?_ | with_reducible refine WB.decT (by first | with_reducible rfl | assumption | omega | exact ⟨rfl, rfl⟩) ?_ | with_reducible refine WB.decF (by first | assumption | omega) ?_ | with_reducible refine WB.ndT (by first | with_reducible rfl | assumption | omega | exact ⟨rfl, rfl⟩) ?_ | with_reducible refine WB.ndF (by first | assumption | omega) ?_ | with_reducible refine WB.nt ?_ | with_reducible refine WB.nf ?_) <;> conv => whnf) | (refine WB.tt ?_; conv => whnf) | (refine WB.ff ?_; conv => whnf)
  exact Fin.b rfl hn
def qT (d : Int) : Int := Int.tmod (d + 2) 4
theorem Bn {d : Int} (h : 0 ≤ d ∧ d ≤ 3) : 0 ≤ qT d ∧ qT d ≤ 3 := by
  have := Int.tmod_nonneg 4 (show 0 ≤ d + 2 by omega)
  have := Int.tmod_lt_of_pos (d + 2) (show (0 : Int) < 4 by omega)
  unfold qT; omega
theorem xL (d : Int) (h : 0 ≤ d ∧ d ≤ 3) : PureF Tryz.prog p149.ix [.i .i64 d] (.i .i64 (qT d)) := by
  have := Bn h
  unfold qT at *
  refine PureF.run Is (by simp) (by simp [aT, Pu]) ?_; conv => whnf
  repeat' first | ((first | with_reducible apply WB.tt | with_reducible apply WB.ff | refine Rn.seq ?_ | refine Rn.reg ?_ | refine Rn.drw ?_ | refine Rn.blk ?_ | refine Rn.skip ?_ | refine Rn.ret ?_ | refine Rn.exit ?_ | refine Rn.cond rfl ?_ | refine And.intro (InR.i64 (by omega) (by omega)) ?_ | refine And.intro (show _ ≠ (0 : Int) by omega) ?_ | refine WIx.intsN (by omega) ?_ | refine WIx.rowsN (by omega) ?_ | with_reducible refine WB.decT (by first | with_reducible rfl | assumption | omega | exact ⟨rfl, rfl⟩) ?_ | with_reducible refine WB.decF (by first | assumption | omega) ?_ | with_reducible refine WB.ndT (by first | with_reducible rfl | assumption | omega | exact ⟨rfl, rfl⟩) ?_ | with_reducible refine WB.ndF (by first | assumption | omega) ?_ | with_reducible refine WB.nt ?_ | with_reducible refine WB.nf ?_) <;> conv => whnf) | (refine WB.tt ?_; conv => whnf) | (refine WB.ff ?_; conv => whnf)
  exact Fin.i rfl rfl
theorem yX {a d : Int} (h : 0 ≤ d ∧ d ≤ 3) (k : 0 ≤ a ∧ a ≤ 3) : (qT a = d) ↔ (a = qT d) := by
  have h1 : d = 0 ∨ d = 1 ∨ d = 2 ∨ d = 3 := by omega
  have h2 : a = 0 ∨ a = 1 ∨ a = 2 ∨ a = 3 := by omega
  rcases h1 with rfl | rfl | rfl | rfl <;> rcases h2 with rfl | rfl | rfl | rfl <;> decide
def HJ (q : Int × Int) (d : Int) : Int × Int := (q.1 + Ah d, q.2 + AE d)
def aW (p : Int × Int) (d : Int) : Nat → Int × Int
  | 0 => p
  | k + 1 => HJ (aW p d k) d
def iU (b : Bh) (p : Int × Int) (d : Int) : Nat → Bool
  | 0 => false
  | k + 1 => iU b p d k || rD b.brk (aW p d (k + 1))
theorem Fc (d : Int) : (-1 ≤ Ah d ∧ Ah d ≤ 1) ∧ (-1 ≤ AE d ∧ AE d ≤ 1) := by
  unfold Ah AE
  constructor <;> split <;> omega
theorem mG (p : Int × Int) (d : Int) : ∀ k : Nat, (p.1 - k ≤ (aW p d k).1 ∧ (aW p d k).1 ≤ p.1 + k) ∧ (p.2 - k ≤ (aW p d k).2 ∧ (aW p d k).2 ≤ p.2 + k)
  | 0 => by simp [aW]
  | k + 1 => by
    have h := mG p d k
    have a := Fc d
    show (p.1 - _ ≤ (aW p d k).1 + Ah d ∧ (aW p d k).1 + Ah d ≤ _) ∧ (p.2 - _ ≤ (aW p d k).2 + AE d ∧ (aW p d k).2 + AE d ≤ _)
    omega
theorem pZ {b : Bh} {p : Int × Int} {d : Int} {j : Nat} (h : rD b.brk (aW p d (j + 1)) = true) : ∀ n, j + 1 ≤ n → iU b p d n = true
  | 0, k => absurd k (by omega)
  | n + 1, k => by
    unfold iU
    by_cases e : n = j
    · subst e; rw [h, Bool.or_true]
    · rw [pZ h n (by omega)]; rfl
theorem VW.spot64 {b : Bh} (V : VW b) {q : Int × Int} (h : q ∈ b.brk) : BS q := by
  have := List.all_eq_true.1 V.brk q h
  unfold dR at this
  rw [Bool.and_eq_true] at this
  have a := bC this.1; have c := bC this.2
  have := V.rws; have := V.pls
  exact ⟨⟨by omega, by omega⟩, ⟨by omega, by omega⟩⟩
def JH (b : Bh) (d : Int) (j : Nat) : T D := (.n (.n (.n .e (some (.pt .h 0 0)) .e) none (.n (.n .e (some (.i .i64 b.rch)) .e) none .e)) none (.n (.n .e (some (.pt (.o .h) 0 0)) .e) (some (.i .i64 d)) (.n (.n .e (some (.i .i64 (j : Int))) .e) none .e)))
def JI (b : Bh) (q : Int × Int) : T C := .n (.n .e (some (.cells false ((bL q).map fun d => Cell.o d 0) 1)) .e) (some (bX b)) .e
set_option maxHeartbeats 4000000 in
theorem xM (b : Bh) (V : VW b) (p : Int × Int) (hp : dR b p = true) (d : Int) (hd : 0 ≤ d ∧ d ≤ 3) (l4 : b.brk.length ≤ 1000) : PureF Tryz.prog p150.ix [.ag (eA b), .ag (bL p), .i .i64 d] (.b (iU b p d b.rch.toNat)) := by
  have hr := V.rch
  have h4 := V.rws
  have h5 := V.pls
  have hb4 : b.brk.length ≤ 1000 := l4
  have hp2 := hp
  unfold dR at hp2
  rw [Bool.and_eq_true] at hp2
  have hpa := bC hp2.1
  have hpb := bC hp2.2
  refine PureF.run Iu (by simp) (by simp [aT, Pu, aX, bL]) ?_; conv => whnf
  repeat' first | ((first | with_reducible apply WB.tt | with_reducible apply WB.ff | refine Rn.seq ?_ | refine Rn.reg ?_ | refine Rn.drw ?_ | refine Rn.blk ?_ | refine Rn.skip ?_ | refine Rn.ret ?_ | refine Rn.exit ?_ | refine Rn.cond rfl ?_ | refine And.intro (InR.i64 (by omega) (by omega)) ?_ | refine And.intro (show _ ≠ (0 : Int) by omega) ?_ | refine WIx.intsN (by omega) ?_ | refine WIx.rowsN (by omega) ?_ | with_reducible refine WB.decT (by first | with_reducible rfl | assumption | omega | exact ⟨rfl, rfl⟩) ?_ | with_reducible refine WB.decF (by first | assumption | omega) ?_ | with_reducible refine WB.ndT (by first | with_reducible rfl | assumption | omega | exact ⟨rfl, rfl⟩) ?_ | with_reducible refine WB.ndF (by first | assumption | omega) ?_ | with_reducible refine WB.nt ?_ | with_reducible refine WB.nf ?_) <;> conv => whnf) | (refine WB.tt ?_; conv => whnf) | (refine WB.ff ?_; conv => whnf)
  refine Rn.loop (fun j : Nat => ⟨JH b d j, JI b (aW p d j), .i .h, none⟩) (fun j => j ≤ b.rch.toNat ∧ iU b p d j = false) (fun j => b.rch.toNat - j) 0 ?_ ⟨Nat.zero_le _, rfl⟩ ?_
  · refine X.le.mk ?_ ?_ (Nat.le_refl _) rfl rfl
    · unfold JH
      (repeat' first | exact T.le_e _ | exact T.le_refl _ | refine T.le_some ?_ rfl ?_ | refine T.le_none ?_ ?_ | refine T.le_ee ?_ ?_)
    · unfold JI
      (repeat' first | exact T.le_e _ | exact T.le_refl _ | refine T.le_some ?_ rfl ?_ | refine T.le_none ?_ ?_ | refine T.le_ee ?_ ?_)
  rintro j ⟨hj, ha⟩
  conv => whnf
  repeat' first | ((first | with_reducible apply WB.tt | with_reducible apply WB.ff | refine Rn.seq ?_ | refine Rn.reg ?_ | refine Rn.drw ?_ | refine Rn.blk ?_ | refine Rn.skip ?_ | refine Rn.ret ?_ | refine Rn.exit ?_ | refine Rn.cond rfl ?_ | refine And.intro (InR.i64 (by omega) (by omega)) ?_ | refine And.intro (show _ ≠ (0 : Int) by omega) ?_ | refine WIx.intsN (by omega) ?_ | refine WIx.rowsN (by omega) ?_ | with_reducible refine WB.decT (by first | with_reducible rfl | assumption | omega | exact ⟨rfl, rfl⟩) ?_ | with_reducible refine WB.decF (by first | assumption | omega) ?_ | with_reducible refine WB.ndT (by first | with_reducible rfl | assumption | omega | exact ⟨rfl, rfl⟩) ?_ | with_reducible refine WB.ndF (by first | assumption | omega) ?_ | with_reducible refine WB.nt ?_ | with_reducible refine WB.nf ?_) <;> conv => whnf) | (refine WB.tt ?_; conv => whnf) | (refine WB.ff ?_; conv => whnf)
  refine WB.dec (fun h => ?_) (fun h => ?_) <;> conv => whnf
  · have hlt : j < b.rch.toNat := by omega
    have hbd := mG p d j
    have hbd1 := mG p d (j + 1)
    have C := xF b.brk (aW p d (j + 1)) hb4 ⟨⟨by omega, by omega⟩, ⟨by omega, by omega⟩⟩ (fun q hq => V.spot64 hq)
    have hd4 : d = 0 ∨ d = 1 ∨ d = 2 ∨ d = 3 := by omega
    cases hm : rD b.brk (aW p d (j + 1)) with
    | true =>
      rw [hm] at C
      have hX := pZ hm b.rch.toNat (by omega)
      rw [hX]
      rcases hd4 with rfl | rfl | rfl | rfl
      all_goals
        repeat' first | ((first | with_reducible apply WB.tt | with_reducible apply WB.ff | refine Rn.seq ?_ | refine Rn.reg ?_ | refine Rn.drw ?_ | refine Rn.blk ?_ | refine Rn.skip ?_ | refine Rn.ret ?_ | refine Rn.exit ?_ | refine Rn.cond rfl ?_ | refine And.intro (InR.i64 (by omega) (by omega)) ?_ | refine And.intro (show _ ≠ (0 : Int) by omega) ?_ | refine WIx.intsN (by omega) ?_ | refine WIx.rowsN (by omega) ?_ | refine WCall.pure (C) ?_ | (first | refine WSt.ixaP (m := 0) rfl rfl rfl (by decide) ?_ | refine WSt.ixaP (m := 1) rfl rfl rfl (by decide) ?_ | refine WSt.ixaP (m := 2) rfl rfl rfl (by decide) ?_ | refine WSt.ixaP (m := 3) rfl rfl rfl (by decide) ?_) | with_reducible refine WB.decT (by first | with_reducible rfl | assumption | omega | exact ⟨rfl, rfl⟩) ?_ | with_reducible refine WB.decF (by first | assumption | omega) ?_ | with_reducible refine WB.ndT (by first | with_reducible rfl | assumption | omega | exact ⟨rfl, rfl⟩) ?_ | with_reducible refine WB.ndF (by first | assumption | omega) ?_ | with_reducible refine WB.nt ?_ | with_reducible refine WB.nf ?_) <;> conv => whnf) | (refine WB.tt ?_; conv => whnf) | (refine WB.ff ?_; conv => whnf)
        exact Fin.b rfl rfl
    | false =>
      rw [hm] at C
      have hX : iU b p d (j + 1) = false := by unfold iU; rw [ha, hm]; rfl
      rcases hd4 with rfl | rfl | rfl | rfl
      all_goals
        repeat' first | ((first | with_reducible apply WB.tt | with_reducible apply WB.ff | refine Rn.seq ?_ | refine Rn.reg ?_ | refine Rn.drw ?_ | refine Rn.blk ?_ | refine Rn.skip ?_ | refine Rn.ret ?_ | refine Rn.exit ?_ | refine Rn.cond rfl ?_ | refine And.intro (InR.i64 (by omega) (by omega)) ?_ | refine And.intro (show _ ≠ (0 : Int) by omega) ?_ | refine WIx.intsN (by omega) ?_ | refine WIx.rowsN (by omega) ?_ | refine WCall.pure (C) ?_ | (first | refine WSt.ixaP (m := 0) rfl rfl rfl (by decide) ?_ | refine WSt.ixaP (m := 1) rfl rfl rfl (by decide) ?_ | refine WSt.ixaP (m := 2) rfl rfl rfl (by decide) ?_ | refine WSt.ixaP (m := 3) rfl rfl rfl (by decide) ?_) | with_reducible refine WB.decT (by first | with_reducible rfl | assumption | omega | exact ⟨rfl, rfl⟩) ?_ | with_reducible refine WB.decF (by first | assumption | omega) ?_ | with_reducible refine WB.ndT (by first | with_reducible rfl | assumption | omega | exact ⟨rfl, rfl⟩) ?_ | with_reducible refine WB.ndF (by first | assumption | omega) ?_ | with_reducible refine WB.nt ?_ | with_reducible refine WB.nf ?_) <;> conv => whnf) | (refine WB.tt ?_; conv => whnf) | (refine WB.ff ?_; conv => whnf)
        refine Again.to (j + 1) (by omega) ⟨by omega, hX⟩ (Nat.le_refl _) ?_
        refine Shr.of ?_ ?_ rfl rfl
        · show Rel _ _ (JH b _ (j + 1)) _
          unfold JH
          (repeat' first | exact Rel.e | refine Rel.some ?_ ?_ ?_ | refine Rel.none ?_ ?_ | refine Rel.ee ?_ ?_)
          all_goals show Fz _ _ _ _
          all_goals first | exact .pu trivial | exact .kpt (show _ < 3 by simp [Pos.nat])
        · show Rel _ _ (JI b (aW p _ (j + 1))) _
          unfold JI
          (repeat' first | exact Rel.e | refine Rel.some ?_ ?_ ?_ | refine Rel.none ?_ ?_ | refine Rel.ee ?_ ?_)
          all_goals first
            | exact RO'.of (show _ < 3 by simp [Pos.nat]) (aJ b)
            | exact RO'.of (show _ < 3 by simp [Pos.nat]) (ShC.same (ShC.cn (.pu trivial) (ShC.cn (.pu trivial) ShC.nl)))
  · obtain rfl : j = b.rch.toNat := by omega
    repeat' first | ((first | with_reducible apply WB.tt | with_reducible apply WB.ff | refine Rn.seq ?_ | refine Rn.reg ?_ | refine Rn.drw ?_ | refine Rn.blk ?_ | refine Rn.skip ?_ | refine Rn.ret ?_ | refine Rn.exit ?_ | refine Rn.cond rfl ?_ | refine And.intro (InR.i64 (by omega) (by omega)) ?_ | refine And.intro (show _ ≠ (0 : Int) by omega) ?_ | refine WIx.intsN (by omega) ?_ | refine WIx.rowsN (by omega) ?_ | with_reducible refine WB.decT (by first | with_reducible rfl | assumption | omega | exact ⟨rfl, rfl⟩) ?_ | with_reducible refine WB.decF (by first | assumption | omega) ?_ | with_reducible refine WB.ndT (by first | with_reducible rfl | assumption | omega | exact ⟨rfl, rfl⟩) ?_ | with_reducible refine WB.ndF (by first | assumption | omega) ?_ | with_reducible refine WB.nt ?_ | with_reducible refine WB.nf ?_) <;> conv => whnf) | (refine WB.tt ?_; conv => whnf) | (refine WB.ff ?_; conv => whnf)
    exact Fin.b rfl ha.symm
end Go.Ev
end
