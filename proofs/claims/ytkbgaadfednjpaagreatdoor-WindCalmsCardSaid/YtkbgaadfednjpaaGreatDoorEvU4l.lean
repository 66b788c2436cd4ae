import Derived.Test.YtkbgaadfednjpaaGreatDoorEvUFn
set_option linter.all false
set_option maxHeartbeats 8000000
noncomputable section
namespace Go.Ev
open Go.Proofs
set_option maxRecDepth 100000
theorem WSt.ixaP {sl : T D} {ob : T C} {nx : Pos} {lg : Option (T Bool)} {K : X → Prop} {d : Pos} {len z off m : Nat} {k : IntKind} {x i : RX} {n : Int} {r : List D} (hx : bT sl x = some (.pl r off)) (hi : bT sl i = some (.i k n)) (hn : n = (m : Int)) (hm : m < len) (h : fK sl ob nx lg d K (.pl r (off + m * z))) : WSt (.ixa d len z x i) ⟨sl, ob, nx, lg⟩ K := by
  obtain ⟨h2, h3⟩ := bR h
  refine ⟨_, ?_, h3⟩
  show pY d len z x i sl ob nx lg = _
  unfold pY
  rw [hx, hi, hn]
  have e : EQ (m : Int) len = some m := by
    show (bif Nat.blt m len then some m else none) = _
    rw [show Nat.blt m len = true from Nat.ble_eq_true_of_le hm]
    rfl
  simp only [e, bN]
  exact h2
def zC (l : List (Int × Int)) (p : Int × Int) : Bool := l.any fun q => decide (p.1 = q.1 ∧ p.2 = q.2)
def EH (p : Int × Int) : Prop := i64 p.1 ∧ i64 p.2
theorem GM (l : List (Int × Int)) (p : Int × Int) (hl : l.length ≤ 1000) (hp : EH p) (hq : ∀ q ∈ l, EH q) : ∃ v, (∃ n : Int, v = .i .i64 n ∧ decide (0 ≤ n) = zC l p) ∧ PureF Tryz.prog p162.ix [.lst 2 (aC aV l), .ag (aV p)] v := by
  have e1 := aH aV l
  refine PureF.runE Ks (by simp) (by simp [aR, dL, Pu, aF, aV]) ?_; conv => whnf
  repeat' first | ((first | refine Qz ?_ | refine Qy ?_) <;> conv => whnf) | (refine WB.tt ?_; conv => whnf) | (refine WB.ff ?_; conv => whnf)
  refine Rn.loop (fun j : Nat => ⟨(.n (.n (.n (.n .e (some (.i .i64 (l.length : Int))) .e) (some (.pt .h 0 0)) .e) none .e) (some (.lst 2 (aC aV l))) (.n (.n (.n .e (some (.i .i64 (j : Int))) .e) none .e) none .e)), .n .e (some (.cells false ((aV p).map fun d => Cell.o d 0) 1)) .e, .o .h, none⟩) (fun j => j ≤ l.length ∧ (l.take j).any (fun q => decide (p.1 = q.1 ∧ p.2 = q.2)) = false) (fun j => l.length - j) 0 ?_ ⟨Nat.zero_le _, by simp⟩ ?_
  · refine X.le.mk ?_ ?_ (Nat.le_refl _) rfl rfl
    all_goals (try rw [← e1])
    all_goals (repeat' first | exact T.le_e _ | exact T.le_refl _ | refine T.le_some ?_ rfl ?_ | refine T.le_none ?_ ?_ | refine T.le_ee ?_ ?_)
  rintro j ⟨hj, ha⟩
  conv => whnf
  repeat' first | ((first | refine Qz ?_ | refine Qy ?_) <;> conv => whnf) | (refine WB.tt ?_; conv => whnf) | (refine WB.ff ?_; conv => whnf)
  refine WB.dec (fun h => ?_) (fun h => ?_) <;> conv => whnf
  · have hlt : j < l.length := by omega
    have hqj := hq _ (aM (d := default) hlt)
    repeat' first | ((first | refine Qz ?_ | refine Qy ?_) <;> conv => whnf) | (refine WB.tt ?_; conv => whnf) | (refine WB.ff ?_; conv => whnf)
    refine WSt.eqr2 (a := p.1) (b := p.2) (a' := (l.getD j default).1) (b' := (l.getD j default).2) rfl rfl (gD hp.1) (gD hp.2) (gD hqj.1) (gD hqj.2) ?_; conv => whnf
    repeat' first | ((first | refine Qz ?_ | refine Qy ?_) <;> conv => whnf) | (refine WB.tt ?_; conv => whnf) | (refine WB.ff ?_; conv => whnf)
    refine WB.dec (fun h2 => ?_) (fun h2 => ?_) <;> conv => whnf
    · repeat' first | ((first | refine Qz ?_ | refine Qy ?_) <;> conv => whnf) | (refine WB.tt ?_; conv => whnf) | (refine WB.ff ?_; conv => whnf)
      refine ⟨_, ⟨(j : Int), rfl, ?_⟩, Fin.i rfl rfl⟩
      rw [decide_eq_true (by omega)]
      exact (jL (d := default) hlt (decide_eq_true h2)).symm
    · repeat' first | ((first | refine Qz ?_ | refine Qy ?_) <;> conv => whnf) | (refine WB.tt ?_; conv => whnf) | (refine WB.ff ?_; conv => whnf)
      refine Again.to (j + 1) (by omega) ⟨by omega, by rw [dS (d := default) hlt, ha, decide_eq_false h2]; rfl⟩ (Nat.le_refl _) ?_
      refine Shr.of ?_ ?_ rfl rfl
      · show Rel _ _ ((.n (.n (.n (.n .e (some (.i .i64 (l.length : Int))) .e) (some (.pt .h 0 0)) .e) none .e) (some (.lst 2 (aC aV l))) (.n (.n (.n .e (some (.i .i64 ((j + 1 : Nat) : Int))) .e) none .e) none .e)) : T D) _
        (repeat' first | exact Rel.e | refine Rel.some ?_ ?_ ?_ | refine Rel.none ?_ ?_ | refine Rel.ee ?_ ?_)
        all_goals show Fz _ _ _ _
        all_goals first | exact .pu trivial | exact .pu (aF _) | exact .kpt (show _ < 2 by simp [Pos.nat])
      · show Rel _ _ (.n .e (some (.cells false ((aV p).map fun d => Cell.o d 0) 1)) .e : T C) _
        (repeat' first | exact Rel.e | refine Rel.some ?_ ?_ ?_ | refine Rel.none ?_ ?_ | refine Rel.ee ?_ ?_)
        all_goals exact RO'.of (show _ < 2 by simp [Pos.nat]) (ShC.same (ShC.cn (.pu trivial) (ShC.cn (.pu trivial) ShC.nl)))
  · obtain rfl : j = l.length := by omega
    repeat' first | ((first | refine Qz ?_ | refine Qy ?_) <;> conv => whnf) | (refine WB.tt ?_; conv => whnf) | (refine WB.ff ?_; conv => whnf)
    refine ⟨_, ⟨-1, rfl, ?_⟩, Fin.i rfl rfl⟩
    rw [decide_eq_false (by omega)]
    exact (gV ha).symm
theorem Ar (l : List (Int × Int)) (p : Int × Int) (hl : l.length ≤ 1000) (hp : EH p) (hq : ∀ q ∈ l, EH q) : PureF Tryz.prog p160.ix [.lst 2 (aC aV l), .ag (aV p)] (.b (zC l p)) := by
  obtain ⟨v, ⟨n, rfl, hn⟩, C⟩ := GM l p hl hp hq
  refine PureF.run MU (by simp) (by simp [aR, dL, Pu, aF, aV]) ?_; conv => whnf
  repeat' first | ((first | refine Qz ?_ | refine Qf (C) ?_ | refine Qy ?_) <;> conv => whnf) | (refine WB.tt ?_; conv => whnf) | (refine WB.ff ?_; conv => whnf)
  exact Fin.b rfl hn
def tD (d : Int) : Int := Int.tmod (d + 2) 4
theorem DT {d : Int} (h : 0 ≤ d ∧ d ≤ 3) : 0 ≤ tD d ∧ tD d ≤ 3 := by
  have := Int.tmod_nonneg 4 (show 0 ≤ d + 2 by omega)
  have := Int.tmod_lt_of_pos (d + 2) (show (0 : Int) < 4 by omega)
  unfold tD; omega
theorem Az (d : Int) (h : 0 ≤ d ∧ d ≤ 3) : PureF Tryz.prog p149.ix [.i .i64 d] (.i .i64 (tD d)) := by
  have := DT h
  unfold tD at *
  refine PureF.run Mf (by simp) (by simp [aR, Pu]) ?_; conv => whnf
  repeat' first | ((first | refine Qz ?_ | refine Qy ?_) <;> conv => whnf) | (refine WB.tt ?_; conv => whnf) | (refine WB.ff ?_; conv => whnf)
  exact Fin.i rfl rfl
theorem BC {a d : Int} (h : 0 ≤ d ∧ d ≤ 3) (k : 0 ≤ a ∧ a ≤ 3) : (tD a = d) ↔ (a = tD d) := by
  have h1 : d = 0 ∨ d = 1 ∨ d = 2 ∨ d = 3 := by omega
  have h2 : a = 0 ∨ a = 1 ∨ a = 2 ∨ a = 3 := by omega
  rcases h1 with rfl | rfl | rfl | rfl <;> rcases h2 with rfl | rfl | rfl | rfl <;> decide
def Li (q : Int × Int) (d : Int) : Int × Int := (q.1 + CB d, q.2 + Dc d)
def bG (p : Int × Int) (d : Int) : Nat → Int × Int
  | 0 => p
  | k + 1 => Li (bG p d k) d
def qO (b : Bh) (p : Int × Int) (d : Int) : Nat → Bool
  | 0 => false
  | k + 1 => qO b p d k || zC b.brk (bG p d (k + 1))
theorem Iw (d : Int) : (-1 ≤ CB d ∧ CB d ≤ 1) ∧ (-1 ≤ Dc d ∧ Dc d ≤ 1) := by
  unfold CB Dc
  constructor <;> split <;> omega
theorem nV (p : Int × Int) (d : Int) : ∀ k : Nat, (p.1 - k ≤ (bG p d k).1 ∧ (bG p d k).1 ≤ p.1 + k) ∧ (p.2 - k ≤ (bG p d k).2 ∧ (bG p d k).2 ≤ p.2 + k)
  | 0 => by simp [bG]
  | k + 1 => by
    have h := nV p d k
    have a := Iw d
    show (p.1 - _ ≤ (bG p d k).1 + CB d ∧ (bG p d k).1 + CB d ≤ _) ∧ (p.2 - _ ≤ (bG p d k).2 + Dc d ∧ (bG p d k).2 + Dc d ≤ _)
    omega
theorem sL {b : Bh} {p : Int × Int} {d : Int} {j : Nat} (h : zC b.brk (bG p d (j + 1)) = true) : ∀ n, j + 1 ≤ n → qO b p d n = true
  | 0, k => absurd k (by omega)
  | n + 1, k => by
    unfold qO
    by_cases e : n = j
    · subst e; rw [h, Bool.or_true]
    · rw [sL h n (by omega)]; rfl
theorem VW.spot64 {b : Bh} (V : VW b) {q : Int × Int} (h : q ∈ b.brk) : EH q := by
  have := List.all_eq_true.1 V.brk q h
  unfold cJ at this
  rw [Bool.and_eq_true] at this
  have a := aX this.1; have c := aX this.2
  have := V.rws; have := V.pls
  exact ⟨⟨by omega, by omega⟩, ⟨by omega, by omega⟩⟩
def NE (b : Bh) (d : Int) (j : Nat) : T D := (.n (.n (.n .e (some (.pt .h 0 0)) .e) none (.n (.n .e (some (.i .i64 b.rch)) .e) none .e)) none (.n (.n .e (some (.pt (.o .h) 0 0)) .e) (some (.i .i64 d)) (.n (.n .e (some (.i .i64 (j : Int))) .e) none .e)))
def NF (b : Bh) (q : Int × Int) : T C := .n (.n .e (some (.cells false ((aV q).map fun d => Cell.o d 0) 1)) .e) (some (bZ b)) .e
set_option maxHeartbeats 4000000 in
theorem AA (b : Bh) (V : VW b) (p : Int × Int) (hp : cJ b p = true) (d : Int) (hd : 0 ≤ d ∧ d ≤ 3) (l4 : b.brk.length ≤ 1000) : PureF Tryz.prog p150.ix [.ag (dW b), .ag (aV p), .i .i64 d] (.b (qO b p d b.rch.toNat)) := by
  have hr := V.rch
  have h4 := V.rws
  have h5 := V.pls
  have hb4 : b.brk.length ≤ 1000 := l4
  have hp2 := hp
  unfold cJ at hp2
  rw [Bool.and_eq_true] at hp2
  have hpa := aX hp2.1
  have hpb := aX hp2.2
  refine PureF.run Mg (by simp) (by simp [aR, Pu, aQ, aV]) ?_; conv => whnf
  repeat' first | ((first | refine Qz ?_ | refine Qy ?_) <;> conv => whnf) | (refine WB.tt ?_; conv => whnf) | (refine WB.ff ?_; conv => whnf)
  refine Rn.loop (fun j : Nat => ⟨NE b d j, NF b (bG p d j), .i .h, none⟩) (fun j => j ≤ b.rch.toNat ∧ qO b p d j = false) (fun j => b.rch.toNat - j) 0 ?_ ⟨Nat.zero_le _, rfl⟩ ?_
  · refine X.le.mk ?_ ?_ (Nat.le_refl _) rfl rfl
    · unfold NE
      (repeat' first | exact T.le_e _ | exact T.le_refl _ | refine T.le_some ?_ rfl ?_ | refine T.le_none ?_ ?_ | refine T.le_ee ?_ ?_)
    · unfold NF
      (repeat' first | exact T.le_e _ | exact T.le_refl _ | refine T.le_some ?_ rfl ?_ | refine T.le_none ?_ ?_ | refine T.le_ee ?_ ?_)
  rintro j ⟨hj, ha⟩
  conv => whnf
  repeat' first | ((first | refine Qz ?_ | refine Qy ?_) <;> conv => whnf) | (refine WB.tt ?_; conv => whnf) | (refine WB.ff ?_; conv => whnf)
  refine WB.dec (fun h => ?_) (fun h => ?_) <;> conv => whnf
  · have hlt : j < b.rch.toNat := by omega
    have hbd := nV p d j
    have hbd1 := nV p d (j + 1)
    have C := Ar b.brk (bG p d (j + 1)) hb4 ⟨⟨by omega, by omega⟩, ⟨by omega, by omega⟩⟩ (fun q hq => V.spot64 hq)
    have hd4 : d = 0 ∨ d = 1 ∨ d = 2 ∨ d = 3 := by omega
    cases hm : zC b.brk (bG p d (j + 1)) with
    | true =>
      rw [hm] at C
      have hX := sL hm b.rch.toNat (by omega)
      rw [hX]
      rcases hd4 with rfl | rfl | rfl | rfl
      all_goals
        repeat' first | ((first | refine Qz ?_ | refine Qf (C) ?_ | (first | refine WSt.ixaP (m := 0) rfl rfl rfl (by decide) ?_ | refine WSt.ixaP (m := 1) rfl rfl rfl (by decide) ?_ | refine WSt.ixaP (m := 2) rfl rfl rfl (by decide) ?_ | refine WSt.ixaP (m := 3) rfl rfl rfl (by decide) ?_) | refine Qy ?_) <;> conv => whnf) | (refine WB.tt ?_; conv => whnf) | (refine WB.ff ?_; conv => whnf)
        exact Fin.b rfl rfl
    | false =>
      rw [hm] at C
      have hX : qO b p d (j + 1) = false := by unfold qO; rw [ha, hm]; rfl
      rcases hd4 with rfl | rfl | rfl | rfl
      all_goals
        repeat' first | ((first | refine Qz ?_ | refine Qf (C) ?_ | (first | refine WSt.ixaP (m := 0) rfl rfl rfl (by decide) ?_ | refine WSt.ixaP (m := 1) rfl rfl rfl (by decide) ?_ | refine WSt.ixaP (m := 2) rfl rfl rfl (by decide) ?_ | refine WSt.ixaP (m := 3) rfl rfl rfl (by decide) ?_) | refine Qy ?_) <;> conv => whnf) | (refine WB.tt ?_; conv => whnf) | (refine WB.ff ?_; conv => whnf)
        refine Again.to (j + 1) (by omega) ⟨by omega, hX⟩ (Nat.le_refl _) ?_
        refine Shr.of ?_ ?_ rfl rfl
        · show Rel _ _ (NE b _ (j + 1)) _
          unfold NE
          (repeat' first | exact Rel.e | refine Rel.some ?_ ?_ ?_ | refine Rel.none ?_ ?_ | refine Rel.ee ?_ ?_)
          all_goals show Fz _ _ _ _
          all_goals first | exact .pu trivial | exact .kpt (show _ < 3 by simp [Pos.nat])
        · show Rel _ _ (NF b (bG p _ (j + 1))) _
          unfold NF
          (repeat' first | exact Rel.e | refine Rel.some ?_ ?_ ?_ | refine Rel.none ?_ ?_ | refine Rel.ee ?_ ?_)
          all_goals first
            | exact RO'.of (show _ < 3 by simp [Pos.nat]) (aL b)
            | exact RO'.of (show _ < 3 by simp [Pos.nat]) (ShC.same (ShC.cn (.pu trivial) (ShC.cn (.pu trivial) ShC.nl)))
  · obtain rfl : j = b.rch.toNat := by omega
    repeat' first | ((first | refine Qz ?_ | refine Qy ?_) <;> conv => whnf) | (refine WB.tt ?_; conv => whnf) | (refine WB.ff ?_; conv => whnf)
    exact Fin.b rfl ha.symm
def tB (b : Bh) (p : Int × Int) (face d : Int) : Bool := decide (face = tD d) || qO b p d b.rch.toNat
theorem QN (p : Int × Int) (j : Nat) : bG p 0 (j + 1) = ((bG p 0 j).1 - 1, (bG p 0 j).2) := by
  show ((bG p 0 j).1 + -1, (bG p 0 j).2 + 0) = _
  rw [Int.add_zero]; rfl
theorem QP (p : Int × Int) (j : Nat) : bG p 1 (j + 1) = ((bG p 1 j).1, (bG p 1 j).2 + 1) := by
  show ((bG p 1 j).1 + 0, (bG p 1 j).2 + 1) = _
  rw [Int.add_zero]
theorem QK (p : Int × Int) (j : Nat) : bG p 2 (j + 1) = ((bG p 2 j).1 + 1, (bG p 2 j).2) := by
  show ((bG p 2 j).1 + 1, (bG p 2 j).2 + 0) = _
  rw [Int.add_zero]
theorem QM (p : Int × Int) (j : Nat) : bG p 3 (j + 1) = ((bG p 3 j).1, (bG p 3 j).2 - 1) := by
  show ((bG p 3 j).1 + 0, (bG p 3 j).2 + -1) = _
  rw [Int.add_zero]; rfl
theorem eN {l : List (Int × Int)} {p : Int × Int} : zC l p = l.any fun q => decide (q.1 = p.1 ∧ q.2 = p.2) := by
  unfold zC
  congr 1
  funext q
  simp only [eq_comm]
set_option maxHeartbeats 4000000 in
theorem gC (b : Bh) (V : VW b) (p : Int × Int) (hp : cJ b p = true) (face d : Int) (hf : 0 ≤ face ∧ face ≤ 3) (hd : 0 ≤ d ∧ d ≤ 3) (l4 : b.brk.length ≤ 1000) : PureF Tryz.prog p90.ix [.ag (dW b), .ag (aV p), .i .i64 face, .i .i64 d] (.b (tB b p face d)) := by
  have hr := V.rch
  have h4 := V.rws
  have h5 := V.pls
  have e1 := aH aV b.brk
  have hp2 := hp
  unfold cJ at hp2
  rw [Bool.and_eq_true] at hp2
  have hpa := aX hp2.1
  have hpb := aX hp2.2
  have ho := DT hf
  unfold tD at ho
  refine PureF.run QB (by simp) (by simp [aR, Pu, aQ, aV]) ?_; conv => whnf
  unfold tB
  by_cases k0 : Int.tmod (face + 2) 4 = d
  · rw [decide_eq_true ((BC hd hf).1 k0), Bool.true_or]
    repeat' first | ((first | refine Qz ?_ | with_reducible (first | refine Qm ?_ | refine Qn ?_ | refine Qo ?_ | refine Qp ?_ | refine WB.nt ?_ | refine WB.nf ?_ | refine WB.dec (fun h => ?_) (fun h => ?_) | refine WB.ndec (fun h => ?_) (fun h => ?_)) | refine WB.mk (fun h => ?_) (fun h => ?_)) <;> conv => whnf) | (refine WB.tt ?_; conv => whnf) | (refine WB.ff ?_; conv => whnf)
    exact Fin.b rfl rfl
  rw [decide_eq_false fun e => k0 ((BC hd hf).2 e), Bool.false_or]
  repeat' first | ((first | refine Qz ?_ | with_reducible (first | refine Qm ?_ | refine Qn ?_ | refine Qo ?_ | refine Qp ?_ | refine WB.nt ?_ | refine WB.nf ?_ | refine WB.dec (fun h => ?_) (fun h => ?_) | refine WB.ndec (fun h => ?_) (fun h => ?_)) | refine WB.mk (fun h => ?_) (fun h => ?_)) <;> conv => whnf) | (refine WB.tt ?_; conv => whnf) | (refine WB.ff ?_; conv => whnf)
  refine Rn.loop (fun j : Nat => ⟨(.n (.n (.n .e (some (.i .i64 d)) .e) none (.n (.n .e (some (.pt (.i .h) 0 0)) .e) (some (.pt (.o .h) 0 0)) .e)) none (.n (.n .e (some (.pt .h 0 0)) .e) none (.n (.n .e (some (.i .i64 (j : Int))) .e) none .e))), .n (.n .e (some (.cells false ((aV p).map fun d => Cell.o d 0) 1)) .e) (some (bZ b)) (.n .e (some (.cells false ((aV (bG p d j)).map fun d => Cell.o d 0) 1)) .e), .o (.o .h), none⟩) (fun j => j ≤ b.rch.toNat ∧ qO b p d j = false) (fun j => b.rch.toNat - j) 0 ?_ ⟨Nat.zero_le _, rfl⟩ ?_
  · refine X.le.mk ?_ ?_ (Nat.le_refl _) rfl rfl
    all_goals (repeat' first | exact T.le_e _ | exact T.le_refl _ | refine T.le_some ?_ rfl ?_ | refine T.le_none ?_ ?_ | refine T.le_ee ?_ ?_)
  rintro j ⟨hj, ha⟩
  conv => whnf
  repeat' first | ((first | refine Qz ?_ | refine Qy ?_) <;> conv => whnf) | (refine WB.tt ?_; conv => whnf) | (refine WB.ff ?_; conv => whnf)
  refine WB.dec (fun h => ?_) (fun h => ?_) <;> conv => whnf
  · have hlt : j < b.rch.toNat := by omega
    have hbd := nV p d j
    have hbd1 := nV p d (j + 1)
    have hyes := fun hm => sL (b := b) (p := p) (d := d) (j := j) hm b.rch.toNat (by omega)
    have hno : zC b.brk (bG p d (j + 1)) = false → qO b p d (j + 1) = false := fun hm => by unfold qO; rw [ha, hm]; rfl
    have hd4 : d = 0 ∨ d = 1 ∨ d = 2 ∨ d = 3 := by omega
    rcases hd4 with rfl | rfl | rfl | rfl
    · repeat' first | ((first | refine Qz ?_ | refine Qy ?_) <;> conv => whnf) | (refine WB.tt ?_; conv => whnf) | (refine WB.ff ?_; conv => whnf)
      refine Rn.loop (fun k : Nat => ⟨(.n (.n (.n .e (some (.i .i64 0)) (.n .e (some (.i .i64 (k : Int))) .e)) none (.n (.n .e (some (.pt (.i .h) 0 0)) .e) (some (.pt (.o .h) 0 0)) .e)) none (.n (.n .e (some (.pt .h 0 0)) .e) none (.n (.n .e (some (.i .i64 (j : Int))) .e) none .e))), .n (.n .e (some (.cells false ((aV p).map fun d => Cell.o d 0) 1)) .e) (some (bZ b)) (.n .e (some (.cells false ((aV (bG p 0 (j + 1))).map fun d => Cell.o d 0) 1)) .e), .o (.o .h), none⟩) (fun k => k ≤ b.brk.length ∧ (b.brk.take k).any (fun q => decide (q.1 = (bG p 0 (j + 1)).1 ∧ q.2 = (bG p 0 (j + 1)).2)) = false) (fun k => b.brk.length - k) 0 ?_ ⟨Nat.zero_le _, by simp⟩ ?_
      · refine X.le.mk ?_ ?_ (Nat.le_refl _) rfl rfl
        · (repeat' first | exact T.le_e _ | exact T.le_refl _ | refine T.le_some ?_ rfl ?_ | refine T.le_none ?_ ?_ | refine T.le_ee ?_ ?_)
        · show T.le (.n (.n .e (some (.cells false ((aV p).map fun d => Cell.o d 0) 1)) .e) (some (bZ b)) (.n .e (some (.cells false ((aV (bG p 0 (j + 1))).map fun d => Cell.o d 0) 1)) .e) : T C) _
          rw [QN p j]
          (repeat' first | exact T.le_e _ | exact T.le_refl _ | refine T.le_some ?_ rfl ?_ | refine T.le_none ?_ ?_ | refine T.le_ee ?_ ?_)
      rintro k ⟨hk, hb⟩
      conv => whnf
      repeat' first | ((first | refine Qz ?_ | refine Qy ?_) <;> conv => whnf) | (refine WB.tt ?_; conv => whnf) | (refine WB.ff ?_; conv => whnf)
      refine WB.dec (fun h3 => ?_) (fun h3 => ?_) <;> conv => whnf
      · have hlt2 : k < b.brk.length := by omega
        have hq := V.spot64 (aM (d := default) hlt2)
        repeat' first | ((first | refine Qz ?_ | refine Qy ?_) <;> conv => whnf) | (refine WB.tt ?_; conv => whnf) | (refine WB.ff ?_; conv => whnf)
        refine WSt.eqr2 (a := (b.brk.getD k default).1) (b := (b.brk.getD k default).2) (a' := (bG p 0 (j + 1)).1) (b' := (bG p 0 (j + 1)).2) rfl rfl (gD hq.1) (gD hq.2) (gD ⟨by omega, by omega⟩) (gD ⟨by omega, by omega⟩) ?_; conv => whnf
        repeat' first | ((first | refine Qz ?_ | refine Qy ?_) <;> conv => whnf) | (refine WB.tt ?_; conv => whnf) | (refine WB.ff ?_; conv => whnf)
        refine WB.dec (fun h4 => ?_) (fun h4 => ?_) <;> conv => whnf
        · repeat' first | ((first | refine Qz ?_ | refine Qy ?_) <;> conv => whnf) | (refine WB.tt ?_; conv => whnf) | (refine WB.ff ?_; conv => whnf)
          rw [hyes (by rw [eN]; exact jL (d := default) hlt2 (decide_eq_true h4))]
          exact Fin.b rfl rfl
        · repeat' first | ((first | refine Qz ?_ | refine Qy ?_) <;> conv => whnf) | (refine WB.tt ?_; conv => whnf) | (refine WB.ff ?_; conv => whnf)
          refine Again.to (k + 1) (by omega) ⟨by omega, by rw [dS (d := default) hlt2, hb, decide_eq_false h4]; rfl⟩ (Nat.le_refl _) ?_
          refine Shr.of ?_ ?_ rfl rfl
          · show Rel _ _ ((.n (.n (.n .e (some (.i .i64 0)) (.n .e (some (.i .i64 ((k + 1 : Nat) : Int))) .e)) none (.n (.n .e (some (.pt (.i .h) 0 0)) .e) (some (.pt (.o .h) 0 0)) .e)) none (.n (.n .e (some (.pt .h 0 0)) .e) none (.n (.n .e (some (.i .i64 (j : Int))) .e) none .e))) : T D) _
            skip
            (repeat' first | exact Rel.e | refine Rel.some ?_ ?_ ?_ | refine Rel.none ?_ ?_ | refine Rel.ee ?_ ?_)
            all_goals show Fz _ _ _ _
            all_goals first | exact .pu trivial | exact .pu (aB _) | exact .pu (aF _) | exact .kpt (show _ < 4 by simp [Pos.nat])
          · show Rel _ _ (.n (.n .e (some (.cells false ((aV p).map fun d => Cell.o d 0) 1)) .e) (some (bZ b)) (.n .e (some (.cells false ((aV (bG p 0 (j + 1))).map fun d => Cell.o d 0) 1)) .e) : T C) _
            (repeat' first | exact Rel.e | refine Rel.some ?_ ?_ ?_ | refine Rel.none ?_ ?_ | refine Rel.ee ?_ ?_)
            all_goals first
              | exact RO'.of (show _ < 4 by simp [Pos.nat]) (aL b)
              | (refine RO'.of (show _ < 4 by simp [Pos.nat]) (ShC.same ?_); (repeat' first | exact ShC.nl | refine ShC.cn ?_ ?_) <;> exact .pu trivial)
      · obtain rfl : k = b.brk.length := by omega
        have hm := hno (by rw [eN]; exact gV hb)
        repeat' first | ((first | refine Qz ?_ | refine Qy ?_) <;> conv => whnf) | (refine WB.tt ?_; conv => whnf) | (refine WB.ff ?_; conv => whnf)
        refine Again.to (j + 1) (by omega) ⟨by omega, hm⟩ (Nat.le_refl _) ?_
        refine Shr.of ?_ ?_ rfl rfl
        · show Rel _ _ ((.n (.n (.n .e (some (.i .i64 0)) .e) none (.n (.n .e (some (.pt (.i .h) 0 0)) .e) (some (.pt (.o .h) 0 0)) .e)) none (.n (.n .e (some (.pt .h 0 0)) .e) none (.n (.n .e (some (.i .i64 ((j + 1 : Nat) : Int))) .e) none .e))) : T D) _
          skip
          (repeat' first | exact Rel.e | refine Rel.some ?_ ?_ ?_ | refine Rel.none ?_ ?_ | refine Rel.ee ?_ ?_)
          all_goals show Fz _ _ _ _
          all_goals first | exact .pu trivial | exact .pu (aB _) | exact .pu (aF _) | exact .kpt (show _ < 4 by simp [Pos.nat])
        · show Rel _ _ (.n (.n .e (some (.cells false ((aV p).map fun d => Cell.o d 0) 1)) .e) (some (bZ b)) (.n .e (some (.cells false ((aV (bG p 0 (j + 1))).map fun d => Cell.o d 0) 1)) .e) : T C) _
          (repeat' first | exact Rel.e | refine Rel.some ?_ ?_ ?_ | refine Rel.none ?_ ?_ | refine Rel.ee ?_ ?_)
          all_goals first
            | exact RO'.of (show _ < 4 by simp [Pos.nat]) (aL b)
            | (refine RO'.of (show _ < 4 by simp [Pos.nat]) (ShC.same ?_); (repeat' first | exact ShC.nl | refine ShC.cn ?_ ?_) <;> exact .pu trivial)
    · repeat' first | ((first | refine Qz ?_ | refine Qy ?_) <;> conv => whnf) | (refine WB.tt ?_; conv => whnf) | (refine WB.ff ?_; conv => whnf)
      refine Rn.loop (fun k : Nat => ⟨(.n (.n (.n .e (some (.i .i64 1)) (.n .e (some (.i .i64 (k : Int))) .e)) none (.n (.n .e (some (.pt (.i .h) 0 0)) .e) (some (.pt (.o .h) 0 0)) .e)) none (.n (.n .e (some (.pt .h 0 0)) .e) none (.n (.n .e (some (.i .i64 (j : Int))) .e) none .e))), .n (.n .e (some (.cells false ((aV p).map fun d => Cell.o d 0) 1)) .e) (some (bZ b)) (.n .e (some (.cells false ((aV (bG p 1 (j + 1))).map fun d => Cell.o d 0) 1)) .e), .o (.o .h), none⟩) (fun k => k ≤ b.brk.length ∧ (b.brk.take k).any (fun q => decide (q.1 = (bG p 1 (j + 1)).1 ∧ q.2 = (bG p 1 (j + 1)).2)) = false) (fun k => b.brk.length - k) 0 ?_ ⟨Nat.zero_le _, by simp⟩ ?_
      · refine X.le.mk ?_ ?_ (Nat.le_refl _) rfl rfl
        · (repeat' first | exact T.le_e _ | exact T.le_refl _ | refine T.le_some ?_ rfl ?_ | refine T.le_none ?_ ?_ | refine T.le_ee ?_ ?_)
        · show T.le (.n (.n .e (some (.cells false ((aV p).map fun d => Cell.o d 0) 1)) .e) (some (bZ b)) (.n .e (some (.cells false ((aV (bG p 1 (j + 1))).map fun d => Cell.o d 0) 1)) .e) : T C) _
          rw [QP p j]
          (repeat' first | exact T.le_e _ | exact T.le_refl _ | refine T.le_some ?_ rfl ?_ | refine T.le_none ?_ ?_ | refine T.le_ee ?_ ?_)
      rintro k ⟨hk, hb⟩
      conv => whnf
      repeat' first | ((first | refine Qz ?_ | refine Qy ?_) <;> conv => whnf) | (refine WB.tt ?_; conv => whnf) | (refine WB.ff ?_; conv => whnf)
      refine WB.dec (fun h3 => ?_) (fun h3 => ?_) <;> conv => whnf
      · have hlt2 : k < b.brk.length := by omega
        have hq := V.spot64 (aM (d := default) hlt2)
        repeat' first | ((first | refine Qz ?_ | refine Qy ?_) <;> conv => whnf) | (refine WB.tt ?_; conv => whnf) | (refine WB.ff ?_; conv => whnf)
        refine WSt.eqr2 (a := (b.brk.getD k default).1) (b := (b.brk.getD k default).2) (a' := (bG p 1 (j + 1)).1) (b' := (bG p 1 (j + 1)).2) rfl rfl (gD hq.1) (gD hq.2) (gD ⟨by omega, by omega⟩) (gD ⟨by omega, by omega⟩) ?_; conv => whnf
        repeat' first | ((first | refine Qz ?_ | refine Qy ?_) <;> conv => whnf) | (refine WB.tt ?_; conv => whnf) | (refine WB.ff ?_; conv => whnf)
        refine WB.dec (fun h4 => ?_) (fun h4 => ?_) <;> conv => whnf
        · repeat' first | ((first | refine Qz ?_ | refine Qy ?_) <;> conv => whnf) | (refine WB.tt ?_; conv => whnf) | (refine WB.ff ?_; conv => whnf)
          rw [hyes (by rw [eN]; exact jL (d := default) hlt2 (decide_eq_true h4))]
          exact Fin.b rfl rfl
        · repeat' first | ((first | refine Qz ?_ | refine Qy ?_) <;> conv => whnf) | (refine WB.tt ?_; conv => whnf) | (refine WB.ff ?_; conv => whnf)
          refine Again.to (k + 1) (by omega) ⟨by omega, by rw [dS (d := default) hlt2, hb, decide_eq_false h4]; rfl⟩ (Nat.le_refl _) ?_
          refine Shr.of ?_ ?_ rfl rfl
          · show Rel _ _ ((.n (.n (.n .e (some (.i .i64 1)) (.n .e (some (.i .i64 ((k + 1 : Nat) : Int))) .e)) none (.n (.n .e (some (.pt (.i .h) 0 0)) .e) (some (.pt (.o .h) 0 0)) .e)) none (.n (.n .e (some (.pt .h 0 0)) .e) none (.n (.n .e (some (.i .i64 (j : Int))) .e) none .e))) : T D) _
            skip
            (repeat' first | exact Rel.e | refine Rel.some ?_ ?_ ?_ | refine Rel.none ?_ ?_ | refine Rel.ee ?_ ?_)
            all_goals show Fz _ _ _ _
            all_goals first | exact .pu trivial | exact .pu (aB _) | exact .pu (aF _) | exact .kpt (show _ < 4 by simp [Pos.nat])
          · show Rel _ _ (.n (.n .e (some (.cells false ((aV p).map fun d => Cell.o d 0) 1)) .e) (some (bZ b)) (.n .e (some (.cells false ((aV (bG p 1 (j + 1))).map fun d => Cell.o d 0) 1)) .e) : T C) _
            (repeat' first | exact Rel.e | refine Rel.some ?_ ?_ ?_ | refine Rel.none ?_ ?_ | refine Rel.ee ?_ ?_)
            all_goals first
              | exact RO'.of (show _ < 4 by simp [Pos.nat]) (aL b)
              | (refine RO'.of (show _ < 4 by simp [Pos.nat]) (ShC.same ?_); (repeat' first | exact ShC.nl | refine ShC.cn ?_ ?_) <;> exact .pu trivial)
      · obtain rfl : k = b.brk.length := by omega
        have hm := hno (by rw [eN]; exact gV hb)
        repeat' first | ((first | refine Qz ?_ | refine Qy ?_) <;> conv => whnf) | (refine WB.tt ?_; conv => whnf) | (refine WB.ff ?_; conv => whnf)
        refine Again.to (j + 1) (by omega) ⟨by omega, hm⟩ (Nat.le_refl _) ?_
        refine Shr.of ?_ ?_ rfl rfl
        · show Rel _ _ ((.n (.n (.n .e (some (.i .i64 1)) .e) none (.n (.n .e (some (.pt (.i .h) 0 0)) .e) (some (.pt (.o .h) 0 0)) .e)) none (.n (.n .e (some (.pt .h 0 0)) .e) none (.n (.n .e (some (.i .i64 ((j + 1 : Nat) : Int))) .e) none .e))) : T D) _
          skip
          (repeat' first | exact Rel.e | refine Rel.some ?_ ?_ ?_ | refine Rel.none ?_ ?_ | refine Rel.ee ?_ ?_)
          all_goals show Fz _ _ _ _
          all_goals first | exact .pu trivial | exact .pu (aB _) | exact .pu (aF _) | exact .kpt (show _ < 4 by simp [Pos.nat])
        · show Rel _ _ (.n (.n .e (some (.cells false ((aV p).map fun d => Cell.o d 0) 1)) .e) (some (bZ b)) (.n .e (some (.cells false ((aV (bG p 1 (j + 1))).map fun d => Cell.o d 0) 1)) .e) : T C) _
          (repeat' first | exact Rel.e | refine Rel.some ?_ ?_ ?_ | refine Rel.none ?_ ?_ | refine Rel.ee ?_ ?_)
          all_goals first
            | exact RO'.of (show _ < 4 by simp [Pos.nat]) (aL b)
            | (refine RO'.of (show _ < 4 by simp [Pos.nat]) (ShC.same ?_); (repeat' first | exact ShC.nl | refine ShC.cn ?_ ?_) <;> exact .pu trivial)
    · repeat' first | ((first | refine Qz ?_ | refine Qy ?_) <;> conv => whnf) | (refine WB.tt ?_; conv => whnf) | (refine WB.ff ?_; conv => whnf)
      refine Rn.loop (fun k : Nat => ⟨(.n (.n (.n .e (some (.i .i64 2)) (.n .e (some (.i .i64 (k : Int))) .e)) none (.n (.n .e (some (.pt (.i .h) 0 0)) .e) (some (.pt (.o .h) 0 0)) .e)) none (.n (.n .e (some (.pt .h 0 0)) .e) none (.n (.n .e (some (.i .i64 (j : Int))) .e) none .e))), .n (.n .e (some (.cells false ((aV p).map fun d => Cell.o d 0) 1)) .e) (some (bZ b)) (.n .e (some (.cells false ((aV (bG p 2 (j + 1))).map fun d => Cell.o d 0) 1)) .e), .o (.o .h), none⟩) (fun k => k ≤ b.brk.length ∧ (b.brk.take k).any (fun q => decide (q.1 = (bG p 2 (j + 1)).1 ∧ q.2 = (bG p 2 (j + 1)).2)) = false) (fun k => b.brk.length - k) 0 ?_ ⟨Nat.zero_le _, by simp⟩ ?_
      · refine X.le.mk ?_ ?_ (Nat.le_refl _) rfl rfl
        · (repeat' first | exact T.le_e _ | exact T.le_refl _ | refine T.le_some ?_ rfl ?_ | refine T.le_none ?_ ?_ | refine T.le_ee ?_ ?_)
        · show T.le (.n (.n .e (some (.cells false ((aV p).map fun d => Cell.o d 0) 1)) .e) (some (bZ b)) (.n .e (some (.cells false ((aV (bG p 2 (j + 1))).map fun d => Cell.o d 0) 1)) .e) : T C) _
          rw [QK p j]
          (repeat' first | exact T.le_e _ | exact T.le_refl _ | refine T.le_some ?_ rfl ?_ | refine T.le_none ?_ ?_ | refine T.le_ee ?_ ?_)
      rintro k ⟨hk, hb⟩
      conv => whnf
      repeat' first | ((first | refine Qz ?_ | refine Qy ?_) <;> conv => whnf) | (refine WB.tt ?_; conv => whnf) | (refine WB.ff ?_; conv => whnf)
      refine WB.dec (fun h3 => ?_) (fun h3 => ?_) <;> conv => whnf
      · have hlt2 : k < b.brk.length := by omega
        have hq := V.spot64 (aM (d := default) hlt2)
        repeat' first | ((first | refine Qz ?_ | refine Qy ?_) <;> conv => whnf) | (refine WB.tt ?_; conv => whnf) | (refine WB.ff ?_; conv => whnf)
        refine WSt.eqr2 (a := (b.brk.getD k default).1) (b := (b.brk.getD k default).2) (a' := (bG p 2 (j + 1)).1) (b' := (bG p 2 (j + 1)).2) rfl rfl (gD hq.1) (gD hq.2) (gD ⟨by omega, by omega⟩) (gD ⟨by omega, by omega⟩) ?_; conv => whnf
        repeat' first | ((first | refine Qz ?_ | refine Qy ?_) <;> conv => whnf) | (refine WB.tt ?_; conv => whnf) | (refine WB.ff ?_; conv => whnf)
        refine WB.dec (fun h4 => ?_) (fun h4 => ?_) <;> conv => whnf
        · repeat' first | ((first | refine Qz ?_ | refine Qy ?_) <;> conv => whnf) | (refine WB.tt ?_; conv => whnf) | (refine WB.ff ?_; conv => whnf)
          rw [hyes (by rw [eN]; exact jL (d := default) hlt2 (decide_eq_true h4))]
          exact Fin.b rfl rfl
        · repeat' first | ((first | refine Qz ?_ | refine Qy ?_) <;> conv => whnf) | (refine WB.tt ?_; conv => whnf) | (refine WB.ff ?_; conv => whnf)
          refine Again.to (k + 1) (by omega) ⟨by omega, by rw [dS (d := default) hlt2, hb, decide_eq_false h4]; rfl⟩ (Nat.le_refl _) ?_
          refine Shr.of ?_ ?_ rfl rfl
          · show Rel _ _ ((.n (.n (.n .e (some (.i .i64 2)) (.n .e (some (.i .i64 ((k + 1 : Nat) : Int))) .e)) none (.n (.n .e (some (.pt (.i .h) 0 0)) .e) (some (.pt (.o .h) 0 0)) .e)) none (.n (.n .e (some (.pt .h 0 0)) .e) none (.n (.n .e (some (.i .i64 (j : Int))) .e) none .e))) : T D) _
            skip
            (repeat' first | exact Rel.e | refine Rel.some ?_ ?_ ?_ | refine Rel.none ?_ ?_ | refine Rel.ee ?_ ?_)
            all_goals show Fz _ _ _ _
            all_goals first | exact .pu trivial | exact .pu (aB _) | exact .pu (aF _) | exact .kpt (show _ < 4 by simp [Pos.nat])
          · show Rel _ _ (.n (.n .e (some (.cells false ((aV p).map fun d => Cell.o d 0) 1)) .e) (some (bZ b)) (.n .e (some (.cells false ((aV (bG p 2 (j + 1))).map fun d => Cell.o d 0) 1)) .e) : T C) _
            (repeat' first | exact Rel.e | refine Rel.some ?_ ?_ ?_ | refine Rel.none ?_ ?_ | refine Rel.ee ?_ ?_)
            all_goals first
              | exact RO'.of (show _ < 4 by simp [Pos.nat]) (aL b)
              | (refine RO'.of (show _ < 4 by simp [Pos.nat]) (ShC.same ?_); (repeat' first | exact ShC.nl | refine ShC.cn ?_ ?_) <;> exact .pu trivial)
      · obtain rfl : k = b.brk.length := by omega
        have hm := hno (by rw [eN]; exact gV hb)
        repeat' first | ((first | refine Qz ?_ | refine Qy ?_) <;> conv => whnf) | (refine WB.tt ?_; conv => whnf) | (refine WB.ff ?_; conv => whnf)
        refine Again.to (j + 1) (by omega) ⟨by omega, hm⟩ (Nat.le_refl _) ?_
        refine Shr.of ?_ ?_ rfl rfl
        · show Rel _ _ ((.n (.n (.n .e (some (.i .i64 2)) .e) none (.n (.n .e (some (.pt (.i .h) 0 0)) .e) (some (.pt (.o .h) 0 0)) .e)) none (.n (.n .e (some (.pt .h 0 0)) .e) none (.n (.n .e (some (.i .i64 ((j + 1 : Nat) : Int))) .e) none .e))) : T D) _
          skip
          (repeat' first | exact Rel.e | refine Rel.some ?_ ?_ ?_ | refine Rel.none ?_ ?_ | refine Rel.ee ?_ ?_)
          all_goals show Fz _ _ _ _
          all_goals first | exact .pu trivial | exact .pu (aB _) | exact .pu (aF _) | exact .kpt (show _ < 4 by simp [Pos.nat])
        · show Rel _ _ (.n (.n .e (some (.cells false ((aV p).map fun d => Cell.o d 0) 1)) .e) (some (bZ b)) (.n .e (some (.cells false ((aV (bG p 2 (j + 1))).map fun d => Cell.o d 0) 1)) .e) : T C) _
          (repeat' first | exact Rel.e | refine Rel.some ?_ ?_ ?_ | refine Rel.none ?_ ?_ | refine Rel.ee ?_ ?_)
          all_goals first
            | exact RO'.of (show _ < 4 by simp [Pos.nat]) (aL b)
            | (refine RO'.of (show _ < 4 by simp [Pos.nat]) (ShC.same ?_); (repeat' first | exact ShC.nl | refine ShC.cn ?_ ?_) <;> exact .pu trivial)
    · repeat' first | ((first | refine Qz ?_ | refine Qy ?_) <;> conv => whnf) | (refine WB.tt ?_; conv => whnf) | (refine WB.ff ?_; conv => whnf)
      refine Rn.loop (fun k : Nat => ⟨(.n (.n (.n .e (some (.i .i64 3)) (.n .e (some (.i .i64 (k : Int))) .e)) none (.n (.n .e (some (.pt (.i .h) 0 0)) .e) (some (.pt (.o .h) 0 0)) .e)) none (.n (.n .e (some (.pt .h 0 0)) .e) none (.n (.n .e (some (.i .i64 (j : Int))) .e) none .e))), .n (.n .e (some (.cells false ((aV p).map fun d => Cell.o d 0) 1)) .e) (some (bZ b)) (.n .e (some (.cells false ((aV (bG p 3 (j + 1))).map fun d => Cell.o d 0) 1)) .e), .o (.o .h), none⟩) (fun k => k ≤ b.brk.length ∧ (b.brk.take k).any (fun q => decide (q.1 = (bG p 3 (j + 1)).1 ∧ q.2 = (bG p 3 (j + 1)).2)) = false) (fun k => b.brk.length - k) 0 ?_ ⟨Nat.zero_le _, by simp⟩ ?_
      · refine X.le.mk ?_ ?_ (Nat.le_refl _) rfl rfl
        · (repeat' first | exact T.le_e _ | exact T.le_refl _ | refine T.le_some ?_ rfl ?_ | refine T.le_none ?_ ?_ | refine T.le_ee ?_ ?_)
        · show T.le (.n (.n .e (some (.cells false ((aV p).map fun d => Cell.o d 0) 1)) .e) (some (bZ b)) (.n .e (some (.cells false ((aV (bG p 3 (j + 1))).map fun d => Cell.o d 0) 1)) .e) : T C) _
          rw [QM p j]
          (repeat' first | exact T.le_e _ | exact T.le_refl _ | refine T.le_some ?_ rfl ?_ | refine T.le_none ?_ ?_ | refine T.le_ee ?_ ?_)
      rintro k ⟨hk, hb⟩
      conv => whnf
      repeat' first | ((first | refine Qz ?_ | refine Qy ?_) <;> conv => whnf) | (refine WB.tt ?_; conv => whnf) | (refine WB.ff ?_; conv => whnf)
      refine WB.dec (fun h3 => ?_) (fun h3 => ?_) <;> conv => whnf
      · have hlt2 : k < b.brk.length := by omega
        have hq := V.spot64 (aM (d := default) hlt2)
        repeat' first | ((first | refine Qz ?_ | refine Qy ?_) <;> conv => whnf) | (refine WB.tt ?_; conv => whnf) | (refine WB.ff ?_; conv => whnf)
        refine WSt.eqr2 (a := (b.brk.getD k default).1) (b := (b.brk.getD k default).2) (a' := (bG p 3 (j + 1)).1) (b' := (bG p 3 (j + 1)).2) rfl rfl (gD hq.1) (gD hq.2) (gD ⟨by omega, by omega⟩) (gD ⟨by omega, by omega⟩) ?_; conv => whnf
        repeat' first | ((first | refine Qz ?_ | refine Qy ?_) <;> conv => whnf) | (refine WB.tt ?_; conv => whnf) | (refine WB.ff ?_; conv => whnf)
        refine WB.dec (fun h4 => ?_) (fun h4 => ?_) <;> conv => whnf
        · repeat' first | ((first | refine Qz ?_ | refine Qy ?_) <;> conv => whnf) | (refine WB.tt ?_; conv => whnf) | (refine WB.ff ?_; conv => whnf)
          rw [hyes (by rw [eN]; exact jL (d := default) hlt2 (decide_eq_true h4))]
          exact Fin.b rfl rfl
        · repeat' first | ((first | refine Qz ?_ | refine Qy ?_) <;> conv => whnf) | (refine WB.tt ?_; conv => whnf) | (refine WB.ff ?_; conv => whnf)
          refine Again.to (k + 1) (by omega) ⟨by omega, by rw [dS (d := default) hlt2, hb, decide_eq_false h4]; rfl⟩ (Nat.le_refl _) ?_
          refine Shr.of ?_ ?_ rfl rfl
          · show Rel _ _ ((.n (.n (.n .e (some (.i .i64 3)) (.n .e (some (.i .i64 ((k + 1 : Nat) : Int))) .e)) none (.n (.n .e (some (.pt (.i .h) 0 0)) .e) (some (.pt (.o .h) 0 0)) .e)) none (.n (.n .e (some (.pt .h 0 0)) .e) none (.n (.n .e (some (.i .i64 (j : Int))) .e) none .e))) : T D) _
            skip
            (repeat' first | exact Rel.e | refine Rel.some ?_ ?_ ?_ | refine Rel.none ?_ ?_ | refine Rel.ee ?_ ?_)
            all_goals show Fz _ _ _ _
            all_goals first | exact .pu trivial | exact .pu (aB _) | exact .pu (aF _) | exact .kpt (show _ < 4 by simp [Pos.nat])
          · show Rel _ _ (.n (.n .e (some (.cells false ((aV p).map fun d => Cell.o d 0) 1)) .e) (some (bZ b)) (.n .e (some (.cells false ((aV (bG p 3 (j + 1))).map fun d => Cell.o d 0) 1)) .e) : T C) _
            (repeat' first | exact Rel.e | refine Rel.some ?_ ?_ ?_ | refine Rel.none ?_ ?_ | refine Rel.ee ?_ ?_)
            all_goals first
              | exact RO'.of (show _ < 4 by simp [Pos.nat]) (aL b)
              | (refine RO'.of (show _ < 4 by simp [Pos.nat]) (ShC.same ?_); (repeat' first | exact ShC.nl | refine ShC.cn ?_ ?_) <;> exact .pu trivial)
      · obtain rfl : k = b.brk.length := by omega
        have hm := hno (by rw [eN]; exact gV hb)
        repeat' first | ((first | refine Qz ?_ | refine Qy ?_) <;> conv => whnf) | (refine WB.tt ?_; conv => whnf) | (refine WB.ff ?_; conv => whnf)
        refine Again.to (j + 1) (by omega) ⟨by omega, hm⟩ (Nat.le_refl _) ?_
        refine Shr.of ?_ ?_ rfl rfl
        · show Rel _ _ ((.n (.n (.n .e (some (.i .i64 3)) .e) none (.n (.n .e (some (.pt (.i .h) 0 0)) .e) (some (.pt (.o .h) 0 0)) .e)) none (.n (.n .e (some (.pt .h 0 0)) .e) none (.n (.n .e (some (.i .i64 ((j + 1 : Nat) : Int))) .e) none .e))) : T D) _
          skip
          (repeat' first | exact Rel.e | refine Rel.some ?_ ?_ ?_ | refine Rel.none ?_ ?_ | refine Rel.ee ?_ ?_)
          all_goals show Fz _ _ _ _
          all_goals first | exact .pu trivial | exact .pu (aB _) | exact .pu (aF _) | exact .kpt (show _ < 4 by simp [Pos.nat])
        · show Rel _ _ (.n (.n .e (some (.cells false ((aV p).map fun d => Cell.o d 0) 1)) .e) (some (bZ b)) (.n .e (some (.cells false ((aV (bG p 3 (j + 1))).map fun d => Cell.o d 0) 1)) .e) : T C) _
          (repeat' first | exact Rel.e | refine Rel.some ?_ ?_ ?_ | refine Rel.none ?_ ?_ | refine Rel.ee ?_ ?_)
          all_goals first
            | exact RO'.of (show _ < 4 by simp [Pos.nat]) (aL b)
            | (refine RO'.of (show _ < 4 by simp [Pos.nat]) (ShC.same ?_); (repeat' first | exact ShC.nl | refine ShC.cn ?_ ?_) <;> exact .pu trivial)
  · obtain rfl : j = b.rch.toNat := by omega
    repeat' first | ((first | refine Qz ?_ | refine Qy ?_) <;> conv => whnf) | (refine WB.tt ?_; conv => whnf) | (refine WB.ff ?_; conv => whnf)
    exact Fin.b rfl ha.symm
def oU (t : Bool) : Int := if t = true then 1 else 0
structure Hr where
  sun : Int
  calm : Int
  good : Int
def iB (x : Hr) : List D := [.i .i64 x.sun, .i .i64 x.calm, .i .i64 x.good]
def iS (b : Bh) (p : Int × Int) (face : Int) (h : Nat) (d : Int) : Hr := ⟨oU (decide (face = b.sun.getD h 0)), oU (tB b p face d), oU (decide (face = b.sun.getD h 0)) * oU (tB b p face d)⟩
def mN (x y : Hr) : Hr := ⟨x.sun + y.sun, x.calm + y.calm, x.good + y.good⟩
def QH (h : Nat) (F : Nat → Int) (d : Int) : List D := [.i .i64 (h : Int), .i .i64 (F 0), .i .i64 (F 1), .i .i64 (F 2), .i .i64 d]
theorem IM {h : Nat} (k : h < 3) : h = 0 ∨ h = 1 ∨ h = 2 := by omega
set_option maxHeartbeats 4000000 in
theorem BW (b : Bh) (V : VW b) (p : Int × Int) (hp : cJ b p = true) (F : Nat → Int) (h : Nat) (hh : h < b.sun.length) (d : Int) (hd : 0 ≤ d ∧ d ≤ 3) (l4 : b.brk.length ≤ 1000) : PureF Tryz.prog p123.ix [.ag (dW b), .ag (QH h F d), .ag (aV p)] (.ag (iB (iS b p (F p.1.toNat) h d))) := by
  have hsun := aN b.sun
  have h4 := V.rws
  have hp2 := hp
  unfold cJ at hp2
  rw [Bool.and_eq_true] at hp2
  have hpa := aX hp2.1
  have cO := Az d hd
  have cB := AA b V p hp d hd l4
  obtain ⟨r, hr⟩ := Int.eq_ofNat_of_zero_le hpa.1
  have hr3 : r < 3 := by omega
  have hpr : p.1.toNat = r := by rw [hr]; rfl
  rw [hpr]
  unfold iS tB
  refine PureF.run JJ (by simp) (by simp [aR, Pu, aQ, aV, QH]) ?_; conv => whnf
  cases hB : qO b p d b.rch.toNat
  all_goals
    rw [hB] at cB
    by_cases k1 : F r = b.sun.getD h 0
    all_goals
      by_cases k2 : F r = tD d
      all_goals
        first | rw [decide_eq_true k1] | rw [decide_eq_false k1]
        first | rw [decide_eq_true k2] | rw [decide_eq_false k2]
        rcases IM hr3 with rfl | rfl | rfl
        all_goals
          repeat' first | ((first | refine Qz ?_ | refine Qy ?_) <;> conv => whnf) | (refine WB.tt ?_; conv => whnf) | (refine WB.ff ?_; conv => whnf)
          refine WSt.ixaN (m := _) rfl rfl hr (by decide) ?_; conv => whnf
          repeat' first | ((first | refine Qz ?_ | refine Qf (cO) ?_ | refine Qf (cB) ?_ | refine WIx.intsN hh ?_ | refine Qy ?_) <;> conv => whnf) | (refine WB.tt ?_; conv => whnf) | (refine WB.ff ?_; conv => whnf)
          exact ⟨.inr rfl, _, rfl, .pu (by simp [one, Pu, aR, iB])⟩
theorem Fk (x y : Hr) (h1 : (-100 ≤ x.sun ∧ x.sun ≤ 100) ∧ (-100 ≤ x.calm ∧ x.calm ≤ 100) ∧ (-100 ≤ x.good ∧ x.good ≤ 100)) (h2 : (-100 ≤ y.sun ∧ y.sun ≤ 100) ∧ (-100 ≤ y.calm ∧ y.calm ≤ 100) ∧ (-100 ≤ y.good ∧ y.good ≤ 100)) : PureF Tryz.prog p122.ix [.ag (iB x), .ag (iB y)] (.ag (iB (mN x y))) := by
  refine PureF.run Kz (by simp) (by simp [aR, Pu, iB]) ?_; conv => whnf
  repeat' first | ((first | refine Qz ?_ | refine Qy ?_) <;> conv => whnf) | (refine WB.tt ?_; conv => whnf) | (refine WB.ff ?_; conv => whnf)
  exact ⟨.inr rfl, _, rfl, .pu (by simp [one, Pu, aR, iB])⟩
def lS (S : Nat → Nat → Int) : List D := [.i .i64 (S 0 0), .i .i64 (S 0 1), .i .i64 (S 0 2), .i .i64 (S 1 0), .i .i64 (S 1 1), .i .i64 (S 1 2), .i .i64 (S 2 0), .i .i64 (S 2 1), .i .i64 (S 2 2), .i .i64 (S 3 0), .i .i64 (S 3 1), .i .i64 (S 3 2), .i .i64 (S 4 0), .i .i64 (S 4 1), .i .i64 (S 4 2)]
theorem kY (S : Nat → Nat → Int) : aR (lS S) := by simp [lS, aR, Pu]
def dJ (b : Bh) (S : Nat → Nat → Int) (p : Int × Int) (t : List Int) : Nat → Hr
  | 0 => ⟨0, 0, 0⟩
  | j + 1 => mN (dJ b S p t j) (iS b p (S j p.1.toNat) j (t.getD j 0))
theorem DQ (t : Bool) : 0 ≤ oU t ∧ oU t ≤ 1 := by unfold oU; split <;> omega
theorem uY (b : Bh) (p : Int × Int) (f : Int) (h : Nat) (d : Int) : (0 ≤ (iS b p f h d).sun ∧ (iS b p f h d).sun ≤ 1) ∧ (0 ≤ (iS b p f h d).calm ∧ (iS b p f h d).calm ≤ 1) ∧ (0 ≤ (iS b p f h d).good ∧ (iS b p f h d).good ≤ 1) := by
  unfold iS
  have h1 := DQ (decide (f = b.sun.getD h 0))
  have h2 := DQ (tB b p f d)
  refine ⟨h1, h2, Int.mul_nonneg h1.1 h2.1, ?_⟩
  have := Int.mul_le_mul h1.2 h2.2 h2.1 (by omega)
  simpa using this
theorem mJ (b : Bh) (S : Nat → Nat → Int) (p : Int × Int) (t : List Int) : ∀ j : Nat, (0 ≤ (dJ b S p t j).sun ∧ (dJ b S p t j).sun ≤ j) ∧ (0 ≤ (dJ b S p t j).calm ∧ (dJ b S p t j).calm ≤ j) ∧ (0 ≤ (dJ b S p t j).good ∧ (dJ b S p t j).good ≤ j)
  | 0 => by simp [dJ]
  | j + 1 => by
    have h := mJ b S p t j
    have k := uY b p (S j p.1.toNat) j (t.getD j 0)
    show (0 ≤ (dJ b S p t j).sun + _ ∧ (dJ b S p t j).sun + _ ≤ _) ∧ (0 ≤ (dJ b S p t j).calm + _ ∧ (dJ b S p t j).calm + _ ≤ _) ∧ (0 ≤ (dJ b S p t j).good + _ ∧ (dJ b S p t j).good + _ ≤ _)
    omega
theorem PD {l : List Int} (h : l.length ≤ 3) : l = [] ∨ (∃ a, l = [a]) ∨ (∃ a b, l = [a, b]) ∨ ∃ a b c, l = [a, b, c] := by
  match l, h with
  | [], _ => exact .inl rfl
  | [a], _ => exact .inr (.inl ⟨a, rfl⟩)
  | [a, b], _ => exact .inr (.inr (.inl ⟨a, b, rfl⟩))
  | [a, b, c], _ => exact .inr (.inr (.inr ⟨a, b, c, rfl⟩))
  | _ :: _ :: _ :: _ :: _, h => exact absurd h (by simp)
def QT (F : Nat → Int) : List D := [.i .i64 (F 0), .i .i64 (F 1), .i .i64 (F 2)]
theorem Gq (l : List Int) (h1 : 1 ≤ l.length) (h : l.length ≤ 3) : PureF Tryz.prog p107.ix [.lst 1 (ints l)] (.ag (QT fun r => l.getD r 0)) := by
  refine PureF.run Ly (by simp) (by simp [aR, dL, Pu, aB]) ?_; conv => whnf
  rcases PD h with rfl | ⟨a, rfl⟩ | ⟨a, b, rfl⟩ | ⟨a, b, c, rfl⟩
  · exact absurd h1 (by decide)
  all_goals
    repeat' first | ((first | refine Qz ?_ | refine Qy ?_) <;> conv => whnf) | (refine WB.tt ?_; conv => whnf) | (refine WB.ff ?_; conv => whnf)
    refine ⟨_, rfl, ?_⟩; conv => whnf
    repeat' first | ((first | refine Qz ?_ | refine Qy ?_) <;> conv => whnf) | (refine WB.tt ?_; conv => whnf) | (refine WB.ff ?_; conv => whnf)
    refine ⟨_, rfl, ?_⟩; conv => whnf
    repeat' first | ((first | refine Qz ?_ | refine Qy ?_) <;> conv => whnf) | (refine WB.tt ?_; conv => whnf) | (refine WB.ff ?_; conv => whnf)
    exact ⟨.inr rfl, _, rfl, .pu (by simp [one, Pu, aR])⟩
def Nn (L : List (List Int)) (j h r : Nat) : Int := bif Nat.blt h j then (L.getD h default).getD r 0 else 0
def bU (L : List (List Int)) (h r : Nat) : Int := (L.getD h default).getD r 0
theorem Hl (L : List (List Int)) (h r : Nat) : Nn L L.length h r = bU L h r := by
 unfold Nn bU
 cases hb : Nat.blt h L.length with
 | true => rfl
 | false =>
   have : ¬ h < L.length := fun k => by rw [show Nat.blt h L.length = true from Nat.ble_eq_true_of_le k] at hb; cases hb
   have e : L.getD h default = [] := by simp [List.getD, this]; rfl
   rw [e]; rfl
theorem pW (L : List (List Int)) (h5 : L.length <= 5) (h3 : ∀ w ∈ L, 1 <= w.length /\ w.length <= 3) : PureF Tryz.prog p84.ix [.lst 1 (aC bY L)] (.ag (lS (bU L))) := by
 have e1 := aH bY L
 have he : lS (bU L) = lS (Nn L L.length) := by simp only [lS, Hl]
 rw [he]
 refine PureF.run OS (by simp) (by simp [aR, dL, Pu, aE]) ?_; conv => whnf
 repeat' ((first | refine Qw ?_ | refine Qv ?_) <;> conv => whnf)
 refine Rn.loop (fun j : Nat => ⟨(.n (.n (.n (.n .e (some (.i .i64 (L.length : Int))) .e) (some (.pt (.o .h) 0 0)) .e) none .e) none (.n (.n (.n .e (some (.i .i64 (j : Int))) .e) none .e) (some (.pt .h 0 0)) (.n .e (some (.lst 1 (aC bY L))) .e))), .n (.n .e (some (.cells false ((lS (Nn L j)).map fun d => Cell.o d 0) 1)) .e) (some (.cells false ((lS fun _ _ => 0).map fun d => Cell.o d 0) 1)) .e, .i .h, none⟩) (fun j => j <= L.length) (fun j => L.length - j) 0 ?_ (Nat.zero_le _) ?_
 ·refine X.le.mk ?_ ?_ (Nat.le_refl _) rfl rfl
  all_goals (try rw [<- e1])
  all_goals (repeat' first | exact T.le_e _ | exact T.le_refl _ | refine T.le_some ?_ rfl ?_ | refine T.le_none ?_ ?_ | refine T.le_ee ?_ ?_)
 intro j hj
 have hj : j <= L.length := hj
 conv => whnf
 repeat' ((first | refine Qw ?_ | refine Qv ?_) <;> conv => whnf)
 refine WB.dec (fun h => ?_) (fun h => ?_) <;> conv => whnf
 ·have hlt : j < L.length := by omega
  have hj5 : j < 5 := by omega
  have cF := Gq (L.getD j default) (h3 _ (aM hlt)).1 (h3 _ (aM hlt)).2
  rcases uI hj5 with rfl | rfl | rfl | rfl | rfl
  ·repeat' ((first | refine Qz ?_ | refine Qf cF ?_ | refine WIx.rowsN hlt ?_ | refine Qy ?_ | refine Qv ?_) <;> conv => whnf)
   refine WSt.ixaN (m := 0) rfl rfl rfl (by decide) ?_; conv => whnf
   repeat' ((first | refine Qw ?_ | refine Qv ?_) <;> conv => whnf)
   refine Again.to (0 + 1) (by omega) (show 0 + 1 <= L.length by omega) (Nat.le_refl _) ?_
   refine Shr.of ?_ ?_ rfl rfl
   ·(repeat' first | exact Rel.e | refine Rel.some ?_ ?_ ?_ | refine Rel.none ?_ ?_ | refine Rel.ee ?_ ?_)
    all_goals show Fz _ _ _ _
    all_goals first | exact .pu trivial | exact .pu (aB _) | exact .pu (aE _) | exact .kpt (Ql rfl)
   ·(repeat' first | exact Rel.e | refine Rel.some ?_ ?_ ?_ | refine Rel.none ?_ ?_ | refine Rel.ee ?_ ?_)
    all_goals first
     | exact Ro (aL b)
     | (refine Ro (ShC.same ?_); (repeat' first | exact ShC.nl | refine ShC.cn ?_ ?_) <;> exact .pu trivial)
  ·repeat' ((first | refine Qz ?_ | refine Qf cF ?_ | refine WIx.rowsN hlt ?_ | refine Qy ?_ | refine Qv ?_) <;> conv => whnf)
   refine WSt.ixaN (m := 1) rfl rfl rfl (by decide) ?_; conv => whnf
   repeat' ((first | refine Qw ?_ | refine Qv ?_) <;> conv => whnf)
   refine Again.to (1 + 1) (by omega) (show 1 + 1 <= L.length by omega) (Nat.le_refl _) ?_
   refine Shr.of ?_ ?_ rfl rfl
   ·(repeat' first | exact Rel.e | refine Rel.some ?_ ?_ ?_ | refine Rel.none ?_ ?_ | refine Rel.ee ?_ ?_)
    all_goals show Fz _ _ _ _
    all_goals first | exact .pu trivial | exact .pu (aB _) | exact .pu (aE _) | exact .kpt (Ql rfl)
   ·(repeat' first | exact Rel.e | refine Rel.some ?_ ?_ ?_ | refine Rel.none ?_ ?_ | refine Rel.ee ?_ ?_)
    all_goals first
     | exact Ro (aL b)
     | (refine Ro (ShC.same ?_); (repeat' first | exact ShC.nl | refine ShC.cn ?_ ?_) <;> exact .pu trivial)
  ·repeat' ((first | refine Qz ?_ | refine Qf cF ?_ | refine WIx.rowsN hlt ?_ | refine Qy ?_ | refine Qv ?_) <;> conv => whnf)
   refine WSt.ixaN (m := 2) rfl rfl rfl (by decide) ?_; conv => whnf
   repeat' ((first | refine Qw ?_ | refine Qv ?_) <;> conv => whnf)
   refine Again.to (2 + 1) (by omega) (show 2 + 1 <= L.length by omega) (Nat.le_refl _) ?_
   refine Shr.of ?_ ?_ rfl rfl
   ·(repeat' first | exact Rel.e | refine Rel.some ?_ ?_ ?_ | refine Rel.none ?_ ?_ | refine Rel.ee ?_ ?_)
    all_goals show Fz _ _ _ _
    all_goals first | exact .pu trivial | exact .pu (aB _) | exact .pu (aE _) | exact .kpt (Ql rfl)
   ·(repeat' first | exact Rel.e | refine Rel.some ?_ ?_ ?_ | refine Rel.none ?_ ?_ | refine Rel.ee ?_ ?_)
    all_goals first
     | exact Ro (aL b)
     | (refine Ro (ShC.same ?_); (repeat' first | exact ShC.nl | refine ShC.cn ?_ ?_) <;> exact .pu trivial)
  ·repeat' ((first | refine Qz ?_ | refine Qf cF ?_ | refine WIx.rowsN hlt ?_ | refine Qy ?_ | refine Qv ?_) <;> conv => whnf)
   refine WSt.ixaN (m := 3) rfl rfl rfl (by decide) ?_; conv => whnf
   repeat' ((first | refine Qw ?_ | refine Qv ?_) <;> conv => whnf)
   refine Again.to (3 + 1) (by omega) (show 3 + 1 <= L.length by omega) (Nat.le_refl _) ?_
   refine Shr.of ?_ ?_ rfl rfl
   ·(repeat' first | exact Rel.e | refine Rel.some ?_ ?_ ?_ | refine Rel.none ?_ ?_ | refine Rel.ee ?_ ?_)
    all_goals show Fz _ _ _ _
    all_goals first | exact .pu trivial | exact .pu (aB _) | exact .pu (aE _) | exact .kpt (Ql rfl)
   ·(repeat' first | exact Rel.e | refine Rel.some ?_ ?_ ?_ | refine Rel.none ?_ ?_ | refine Rel.ee ?_ ?_)
    all_goals first
     | exact Ro (aL b)
     | (refine Ro (ShC.same ?_); (repeat' first | exact ShC.nl | refine ShC.cn ?_ ?_) <;> exact .pu trivial)
  ·repeat' ((first | refine Qz ?_ | refine Qf cF ?_ | refine WIx.rowsN hlt ?_ | refine Qy ?_ | refine Qv ?_) <;> conv => whnf)
   refine WSt.ixaN (m := 4) rfl rfl rfl (by decide) ?_; conv => whnf
   repeat' ((first | refine Qw ?_ | refine Qv ?_) <;> conv => whnf)
   refine Again.to (4 + 1) (by omega) (show 4 + 1 <= L.length by omega) (Nat.le_refl _) ?_
   refine Shr.of ?_ ?_ rfl rfl
   ·(repeat' first | exact Rel.e | refine Rel.some ?_ ?_ ?_ | refine Rel.none ?_ ?_ | refine Rel.ee ?_ ?_)
    all_goals show Fz _ _ _ _
    all_goals first | exact .pu trivial | exact .pu (aB _) | exact .pu (aE _) | exact .kpt (Ql rfl)
   ·(repeat' first | exact Rel.e | refine Rel.some ?_ ?_ ?_ | refine Rel.none ?_ ?_ | refine Rel.ee ?_ ?_)
    all_goals first
     | exact Ro (aL b)
     | (refine Ro (ShC.same ?_); (repeat' first | exact ShC.nl | refine ShC.cn ?_ ?_) <;> exact .pu trivial)
 ·obtain rfl : j = L.length := by omega
  repeat' ((first | refine Qw ?_ | refine Qv ?_) <;> conv => whnf)
  exact ⟨.inr rfl, _, rfl, .pu (by simp [one, Pu, aR, lS])⟩
def gS (b : Bh) (L : List (List Int)) : Bool := decide ((L.length : Int) = b.last + 1) && L.all (pF b)
theorem rW (b : Bh) (L : List (List Int)) (h0 : -9223372036854775808 <= b.last + 1 /\ b.last + 1 <= 9223372036854775807) (h1 : L.length <= 1000) (h2 : ∀ w ∈ L, w.length <= 1000) : PureF Tryz.prog p82.ix [.ag (dW b), .lst 1 (aC bY L)] (.b (gS b L)) := by
 have e1 := aH bY L
 have cA := Fx L p117 [.ag (dW b)] [] (pF b) (by simp [aR, Pu, aQ]) trivial h1 (fun w hw => xQ b w (h2 w hw))
 refine PureF.run KV (by simp) (by simp [aR, Pu, aQ, aE]) ?_; conv => whnf
 unfold gS
 by_cases k : (L.length : Int) = b.last + 1
 rotate_left
 ·rw [decide_eq_false k]
  repeat' first | ((first | refine Qw ?_ | refine Qd (fun h => ?_) (fun h => ?_)) <;> conv => whnf) | (refine WB.tt ?_; conv => whnf) | (refine WB.ff ?_; conv => whnf)
  exact Fin.b rfl rfl
 rw [decide_eq_true k]
 repeat' first | ((first | refine Qw ?_ | refine Qf cA ?_ | refine Qd (fun h => ?_) (fun h => ?_)) <;> conv => whnf) | (refine WB.tt ?_; conv => whnf) | (refine WB.ff ?_; conv => whnf)
 exact Fin.b rfl rfl
theorem ET (b : Bh) (L : List (List Int)) (h0 : -9223372036854775808 <= b.last + 1 /\ b.last + 1 <= 9223372036854775807) (h1 : L.length <= 1000) (h2 : ∀ w ∈ L, w.length <= 1000) : PureF Tryz.prog p31.ix [.ag (dW b), .lst 1 (aC bY L)] (.b (gS b L)) := by
 have e1 := aH bY L
 refine PureF.run OL (by simp) (by simp [aR, Pu, aQ, aE]) ?_; conv => whnf
 repeat' ((first | refine Qw ?_ | refine Qv ?_) <;> conv => whnf)
 refine Rn.loop (fun j : Nat => ⟨(.n (.n .e (some (.lst 1 (aC bY L))) (.n .e (some (.i .i64 (j : Int))) .e)) none (.n .e (some (.pt .h 0 0)) .e)), .n .e (some (bZ b)) .e, .o .h, none⟩) (fun j => j <= L.length /\ (L.take j).all (pF b) = true) (fun j => L.length - j) 0 ?_ ⟨Nat.zero_le _, by simp⟩ ?_
 ·refine X.le.mk ?_ ?_ (Nat.le_refl _) rfl rfl
  all_goals (repeat' first | exact T.le_e _ | exact T.le_refl _ | refine T.le_some ?_ rfl ?_ | refine T.le_none ?_ ?_ | refine T.le_ee ?_ ?_)
 rintro j ⟨hj, ha⟩
 conv => whnf
 repeat' ((first | refine Qw ?_ | refine Qv ?_) <;> conv => whnf)
 refine WB.dec (fun h => ?_) (fun h => ?_) <;> conv => whnf
 ·have hlt : j < L.length := by omega
  have cD := gO (L.getD j default) 0 (h2 _ (aM hlt))
  have ew := aN (L.getD j default)
  have bad : pF b (L.getD j default) = false -> gS b L = false := fun h => by unfold gS; rw [eO (d := default) hlt h, Bool.and_false]
  by_cases k1 : ((L.getD j default).length : Int) = b.rws
  rotate_left
  ·rw [bad (by unfold pF; rw [decide_eq_false k1]; rfl)]
   repeat' first | ((first | refine Qw ?_ | refine Qd (fun h => ?_) (fun h => ?_)) <;> conv => whnf) | (refine WB.tt ?_; conv => whnf) | (refine WB.ff ?_; conv => whnf)
   exact Fin.b rfl rfl
  cases k2 : (L.getD j default).all (fun n => gQ n 0 3) with
  | false =>
    rw [bad (by unfold pF; rw [show (L.getD j default).all iC = false from k2, Bool.and_false])]
    rw [k2] at cD
    repeat' first | ((first | refine Qw ?_ | refine Qf cD ?_ | refine Qd (fun h => ?_) (fun h => ?_)) <;> conv => whnf) | (refine WB.tt ?_; conv => whnf) | (refine WB.ff ?_; conv => whnf)
    exact Fin.b rfl rfl
  | true =>
    rw [k2] at cD
    repeat' first | ((first | refine Qw ?_ | refine Qf cD ?_ | refine Qd (fun h => ?_) (fun h => ?_)) <;> conv => whnf) | (refine WB.tt ?_; conv => whnf) | (refine WB.ff ?_; conv => whnf)
    refine Again.to (j + 1) (by omega) ⟨by omega, bQ (d := default) hlt ha (by unfold pF; rw [decide_eq_true k1, show (L.getD j default).all iC = true from k2]; rfl)⟩ (Nat.le_refl _) ?_
    refine Shr.of ?_ ?_ rfl rfl
    ·(repeat' first | exact Rel.e | refine Rel.some ?_ ?_ ?_ | refine Rel.none ?_ ?_ | refine Rel.ee ?_ ?_)
     all_goals show Fz _ _ _ _
     all_goals first | exact .pu trivial | exact .pu (aB _) | exact .pu (aE _) | exact .kpt (Ql rfl)
    ·(repeat' first | exact Rel.e | refine Rel.some ?_ ?_ ?_ | refine Rel.none ?_ ?_ | refine Rel.ee ?_ ?_)
     all_goals first
      | exact Ro (aL b)
      | (refine Ro (ShC.same ?_); (repeat' first | exact ShC.nl | refine ShC.cn ?_ ?_) <;> exact .pu trivial)
 ·have hB := fS (by omega) ha
  unfold gS
  rw [hB, Bool.and_true]
  by_cases k : (L.length : Int) = b.last + 1
  ·rw [decide_eq_true k]
   repeat' first | ((first | refine Qw ?_ | refine Qd (fun h => ?_) (fun h => ?_)) <;> conv => whnf) | (refine WB.tt ?_; conv => whnf) | (refine WB.ff ?_; conv => whnf)
   exact Fin.b rfl (by first | rfl | (refine decide_eq_true ?_; omega))
  ·rw [decide_eq_false k]
   repeat' first | ((first | refine Qw ?_ | refine Qd (fun h => ?_) (fun h => ?_)) <;> conv => whnf) | (refine WB.tt ?_; conv => whnf) | (refine WB.ff ?_; conv => whnf)
   exact Fin.b rfl (by first | rfl | (refine decide_eq_false ?_; omega))
end Go.Ev
end
