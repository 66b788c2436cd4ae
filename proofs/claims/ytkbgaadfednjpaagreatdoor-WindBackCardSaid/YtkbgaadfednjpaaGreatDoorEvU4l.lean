import Derived.Test.YtkbgaadfednjpaaGreatDoorEvU4h
import Derived.Test.YtkbgaadfednjpaaGreatDoorEvUSq
set_option linter.all false
set_option maxHeartbeats 8000000
noncomputable section
namespace Go.Ev
open Go.Proofs
set_option maxRecDepth 100000
theorem WSt.ixaP {sl : T D} {ob : T C} {nx : Pos} {lg : Option (T Bool)} {K : X → Prop} {d : Pos} {len z off m : Nat} {k : IntKind} {x i : RX} {n : Int} {r : List D} (hx : bE sl x = some (.pl r off)) (hi : bE sl i = some (.i k n)) (hn : n = (m : Int)) (hm : m < len) (h : eF sl ob nx lg d K (.pl r (off + m * z))) : WSt (.ixa d len z x i) ⟨sl, ob, nx, lg⟩ K := by
  obtain ⟨h2, h3⟩ := aY h
  refine ⟨_, ?_, h3⟩
  show oB d len z x i sl ob nx lg = _
  unfold oB
  rw [hx, hi, hn]
  have e : DE (m : Int) len = some m := by
    show (bif Nat.blt m len then some m else none) = _
    rw [show Nat.blt m len = true from Nat.ble_eq_true_of_le hm]
    rfl
  simp only [e, bA]
  exact h2
def wA (l : List (Int × Int)) (p : Int × Int) : Bool := l.any fun q => decide (p.1 = q.1 ∧ p.2 = q.2)
def Dz (p : Int × Int) : Prop := i64 p.1 ∧ i64 p.2
theorem FH (l : List (Int × Int)) (p : Int × Int) (hl : l.length ≤ 1000) (hp : Dz p) (hq : ∀ q ∈ l, Dz q) : ∃ v, (∃ n : Int, v = .i .i64 n ∧ decide (0 ≤ n) = wA l p) ∧ PureF Tryz.prog p162.ix [.lst 2 (aJ cV l), .ag (cV p)] v := by
  have e1 := aK cV l
  refine PureF.runE IP (by simp) (by simp [aN, dE, Pu, aH, cV]) ?_; conv => whnf
  repeat' first | ((first | refine Qz ?_ | refine Qy ?_) <;> conv => whnf) | (refine WB.tt ?_; conv => whnf) | (refine WB.ff ?_; conv => whnf)
  refine Rn.loop (fun j : Nat => ⟨(.n (.n (.n (.n .e (some (.i .i64 (l.length : Int))) .e) (some (.pt .h 0 0)) .e) none .e) (some (.lst 2 (aJ cV l))) (.n (.n (.n .e (some (.i .i64 (j : Int))) .e) none .e) none .e)), .n .e (some (.cells false ((cV p).map fun d => Cell.o d 0) 1)) .e, .o .h, none⟩) (fun j => j ≤ l.length ∧ (l.take j).any (fun q => decide (p.1 = q.1 ∧ p.2 = q.2)) = false) (fun j => l.length - j) 0 ?_ ⟨Nat.zero_le _, by simp⟩ ?_
  · refine X.le.mk ?_ ?_ (Nat.le_refl _) rfl rfl
    all_goals (try rw [← e1])
    all_goals (repeat' first | exact T.le_e _ | exact T.le_refl _ | refine T.le_some ?_ rfl ?_ | refine T.le_none ?_ ?_ | refine T.le_ee ?_ ?_)
  rintro j ⟨hj, ha⟩
  conv => whnf
  repeat' first | ((first | refine Qz ?_ | refine Qy ?_) <;> conv => whnf) | (refine WB.tt ?_; conv => whnf) | (refine WB.ff ?_; conv => whnf)
  refine WB.dec (fun h => ?_) (fun h => ?_) <;> conv => whnf
  · have hlt : j < l.length := by omega
    have hqj := hq _ (aR (d := default) hlt)
    repeat' first | ((first | refine Qz ?_ | refine Qy ?_) <;> conv => whnf) | (refine WB.tt ?_; conv => whnf) | (refine WB.ff ?_; conv => whnf)
    refine WSt.eqr2 (a := p.1) (b := p.2) (a' := (l.getD j default).1) (b' := (l.getD j default).2) rfl rfl (tM hp.1) (tM hp.2) (tM hqj.1) (tM hqj.2) ?_; conv => whnf
    repeat' first | ((first | refine Qz ?_ | refine Qy ?_) <;> conv => whnf) | (refine WB.tt ?_; conv => whnf) | (refine WB.ff ?_; conv => whnf)
    refine WB.dec (fun h2 => ?_) (fun h2 => ?_) <;> conv => whnf
    · repeat' first | ((first | refine Qz ?_ | refine Qy ?_) <;> conv => whnf) | (refine WB.tt ?_; conv => whnf) | (refine WB.ff ?_; conv => whnf)
      refine ⟨_, ⟨(j : Int), rfl, ?_⟩, Fin.i rfl rfl⟩
      rw [decide_eq_true (by omega)]
      exact (EH (d := default) hlt (decide_eq_true h2)).symm
    · repeat' first | ((first | refine Qz ?_ | refine Qy ?_) <;> conv => whnf) | (refine WB.tt ?_; conv => whnf) | (refine WB.ff ?_; conv => whnf)
      refine Again.to (j + 1) (by omega) ⟨by omega, by rw [qR (d := default) hlt, ha, decide_eq_false h2]; rfl⟩ (Nat.le_refl _) ?_
      refine Shr.of ?_ ?_ rfl rfl
      · show Rel _ _ ((.n (.n (.n (.n .e (some (.i .i64 (l.length : Int))) .e) (some (.pt .h 0 0)) .e) none .e) (some (.lst 2 (aJ cV l))) (.n (.n (.n .e (some (.i .i64 ((j + 1 : Nat) : Int))) .e) none .e) none .e)) : T D) _
        (repeat' first | exact Rel.e | refine Rel.some ?_ ?_ ?_ | refine Rel.none ?_ ?_ | refine Rel.ee ?_ ?_)
        all_goals show Fz _ _ _ _
        all_goals first | exact .pu trivial | exact .pu (aH _) | exact .kpt (show _ < 2 by simp [Pos.nat])
      · show Rel _ _ (.n .e (some (.cells false ((cV p).map fun d => Cell.o d 0) 1)) .e : T C) _
        (repeat' first | exact Rel.e | refine Rel.some ?_ ?_ ?_ | refine Rel.none ?_ ?_ | refine Rel.ee ?_ ?_)
        all_goals exact RO'.of (show _ < 2 by simp [Pos.nat]) (ShC.same (ShC.cn (.pu trivial) (ShC.cn (.pu trivial) ShC.nl)))
  · obtain rfl : j = l.length := by omega
    repeat' first | ((first | refine Qz ?_ | refine Qy ?_) <;> conv => whnf) | (refine WB.tt ?_; conv => whnf) | (refine WB.ff ?_; conv => whnf)
    refine ⟨_, ⟨-1, rfl, ?_⟩, Fin.i rfl rfl⟩
    rw [decide_eq_false (by omega)]
    exact (BA ha).symm
theorem xS (l : List (Int × Int)) (p : Int × Int) (hl : l.length ≤ 1000) (hp : Dz p) (hq : ∀ q ∈ l, Dz q) : PureF Tryz.prog p160.ix [.lst 2 (aJ cV l), .ag (cV p)] (.b (wA l p)) := by
  obtain ⟨v, ⟨n, rfl, hn⟩, C⟩ := FH l p hl hp hq
  refine PureF.run Kx (by simp) (by simp [aN, dE, Pu, aH, cV]) ?_; conv => whnf
  repeat' first | ((first | refine Qz ?_ | refine Qf (C) ?_ | refine Qy ?_) <;> conv => whnf) | (refine WB.tt ?_; conv => whnf) | (refine WB.ff ?_; conv => whnf)
  exact Fin.b rfl hn
def iY (d : Int) : Int := Int.tmod (d + 2) 4
theorem GQ {d : Int} (h : 0 ≤ d ∧ d ≤ 3) : 0 ≤ iY d ∧ iY d ≤ 3 := by
  have := Int.tmod_nonneg 4 (show 0 ≤ d + 2 by omega)
  have := Int.tmod_lt_of_pos (d + 2) (show (0 : Int) < 4 by omega)
  unfold iY; omega
theorem xY (d : Int) (h : 0 ≤ d ∧ d ≤ 3) : PureF Tryz.prog p149.ix [.i .i64 d] (.i .i64 (iY d)) := by
  have := GQ h
  unfold iY at *
  refine PureF.run JV (by simp) (by simp [aN, Pu]) ?_; conv => whnf
  repeat' first | ((first | refine Qz ?_ | refine Qy ?_) <;> conv => whnf) | (refine WB.tt ?_; conv => whnf) | (refine WB.ff ?_; conv => whnf)
  exact Fin.i rfl rfl
theorem FM {a d : Int} (h : 0 ≤ d ∧ d ≤ 3) (k : 0 ≤ a ∧ a ≤ 3) : (iY a = d) ↔ (a = iY d) := by
  have h1 : d = 0 ∨ d = 1 ∨ d = 2 ∨ d = 3 := by omega
  have h2 : a = 0 ∨ a = 1 ∨ a = 2 ∨ a = 3 := by omega
  rcases h1 with rfl | rfl | rfl | rfl <;> rcases h2 with rfl | rfl | rfl | rfl <;> decide
def Jt (q : Int × Int) (d : Int) : Int × Int := (q.1 + AC d, q.2 + BF d)
def iQ (p : Int × Int) (d : Int) : Nat → Int × Int
  | 0 => p
  | k + 1 => Jt (iQ p d k) d
def iH (b : Bh) (p : Int × Int) (d : Int) : Nat → Bool
  | 0 => false
  | k + 1 => iH b p d k || wA b.brk (iQ p d (k + 1))
theorem Hq (d : Int) : (-1 ≤ AC d ∧ AC d ≤ 1) ∧ (-1 ≤ BF d ∧ BF d ≤ 1) := by
  unfold AC BF
  constructor <;> split <;> omega
theorem sM (p : Int × Int) (d : Int) : ∀ k : Nat, (p.1 - k ≤ (iQ p d k).1 ∧ (iQ p d k).1 ≤ p.1 + k) ∧ (p.2 - k ≤ (iQ p d k).2 ∧ (iQ p d k).2 ≤ p.2 + k)
  | 0 => by simp [iQ]
  | k + 1 => by
    have h := sM p d k
    have a := Hq d
    show (p.1 - _ ≤ (iQ p d k).1 + AC d ∧ (iQ p d k).1 + AC d ≤ _) ∧ (p.2 - _ ≤ (iQ p d k).2 + BF d ∧ (iQ p d k).2 + BF d ≤ _)
    omega
theorem vN {b : Bh} {p : Int × Int} {d : Int} {j : Nat} (h : wA b.brk (iQ p d (j + 1)) = true) : ∀ n, j + 1 ≤ n → iH b p d n = true
  | 0, k => absurd k (by omega)
  | n + 1, k => by
    unfold iH
    by_cases e : n = j
    · subst e; rw [h, Bool.or_true]
    · rw [vN h n (by omega)]; rfl
theorem VW.spot64 {b : Bh} (V : VW b) {q : Int × Int} (h : q ∈ b.brk) : Dz q := by
  have := List.all_eq_true.1 V.brk q h
  unfold eK at this
  rw [Bool.and_eq_true] at this
  have a := bF this.1; have c := bF this.2
  have := V.rws; have := V.pls
  exact ⟨⟨by omega, by omega⟩, ⟨by omega, by omega⟩⟩
def La (b : Bh) (d : Int) (j : Nat) : T D := (.n (.n (.n .e (some (.pt .h 0 0)) .e) none (.n (.n .e (some (.i .i64 b.rch)) .e) none .e)) none (.n (.n .e (some (.pt (.o .h) 0 0)) .e) (some (.i .i64 d)) (.n (.n .e (some (.i .i64 (j : Int))) .e) none .e)))
def Lb (b : Bh) (q : Int × Int) : T C := .n (.n .e (some (.cells false ((cV q).map fun d => Cell.o d 0) 1)) .e) (some (lK b)) .e
set_option maxHeartbeats 4000000 in
theorem xZ (b : Bh) (V : VW b) (p : Int × Int) (hp : eK b p = true) (d : Int) (hd : 0 ≤ d ∧ d ≤ 3) (l4 : b.brk.length ≤ 1000) : PureF Tryz.prog p150.ix [.ag (dV b), .ag (cV p), .i .i64 d] (.b (iH b p d b.rch.toNat)) := by
  have hr := V.rch
  have h4 := V.rws
  have h5 := V.pls
  have hb4 : b.brk.length ≤ 1000 := l4
  have hp2 := hp
  unfold eK at hp2
  rw [Bool.and_eq_true] at hp2
  have hpa := bF hp2.1
  have hpb := bF hp2.2
  refine PureF.run JX (by simp) (by simp [aN, Pu, aO, cV]) ?_; conv => whnf
  repeat' first | ((first | refine Qz ?_ | refine Qy ?_) <;> conv => whnf) | (refine WB.tt ?_; conv => whnf) | (refine WB.ff ?_; conv => whnf)
  refine Rn.loop (fun j : Nat => ⟨La b d j, Lb b (iQ p d j), .i .h, none⟩) (fun j => j ≤ b.rch.toNat ∧ iH b p d j = false) (fun j => b.rch.toNat - j) 0 ?_ ⟨Nat.zero_le _, rfl⟩ ?_
  · refine X.le.mk ?_ ?_ (Nat.le_refl _) rfl rfl
    · unfold La
      (repeat' first | exact T.le_e _ | exact T.le_refl _ | refine T.le_some ?_ rfl ?_ | refine T.le_none ?_ ?_ | refine T.le_ee ?_ ?_)
    · unfold Lb
      (repeat' first | exact T.le_e _ | exact T.le_refl _ | refine T.le_some ?_ rfl ?_ | refine T.le_none ?_ ?_ | refine T.le_ee ?_ ?_)
  rintro j ⟨hj, ha⟩
  conv => whnf
  repeat' first | ((first | refine Qz ?_ | refine Qy ?_) <;> conv => whnf) | (refine WB.tt ?_; conv => whnf) | (refine WB.ff ?_; conv => whnf)
  refine WB.dec (fun h => ?_) (fun h => ?_) <;> conv => whnf
  · have hlt : j < b.rch.toNat := by omega
    have hbd := sM p d j
    have hbd1 := sM p d (j + 1)
    have C := xS b.brk (iQ p d (j + 1)) hb4 ⟨⟨by omega, by omega⟩, ⟨by omega, by omega⟩⟩ (fun q hq => V.spot64 hq)
    have hd4 : d = 0 ∨ d = 1 ∨ d = 2 ∨ d = 3 := by omega
    cases hm : wA b.brk (iQ p d (j + 1)) with
    | true =>
      rw [hm] at C
      have hX := vN hm b.rch.toNat (by omega)
      rw [hX]
      rcases hd4 with rfl | rfl | rfl | rfl
      all_goals
        repeat' first | ((first | refine Qz ?_ | refine Qf (C) ?_ | (first | refine WSt.ixaP (m := 0) rfl rfl rfl (by decide) ?_ | refine WSt.ixaP (m := 1) rfl rfl rfl (by decide) ?_ | refine WSt.ixaP (m := 2) rfl rfl rfl (by decide) ?_ | refine WSt.ixaP (m := 3) rfl rfl rfl (by decide) ?_) | refine Qy ?_) <;> conv => whnf) | (refine WB.tt ?_; conv => whnf) | (refine WB.ff ?_; conv => whnf)
        exact Fin.b rfl rfl
    | false =>
      rw [hm] at C
      have hX : iH b p d (j + 1) = false := by unfold iH; rw [ha, hm]; rfl
      rcases hd4 with rfl | rfl | rfl | rfl
      all_goals
        repeat' first | ((first | refine Qz ?_ | refine Qf (C) ?_ | (first | refine WSt.ixaP (m := 0) rfl rfl rfl (by decide) ?_ | refine WSt.ixaP (m := 1) rfl rfl rfl (by decide) ?_ | refine WSt.ixaP (m := 2) rfl rfl rfl (by decide) ?_ | refine WSt.ixaP (m := 3) rfl rfl rfl (by decide) ?_) | refine Qy ?_) <;> conv => whnf) | (refine WB.tt ?_; conv => whnf) | (refine WB.ff ?_; conv => whnf)
        refine Again.to (j + 1) (by omega) ⟨by omega, hX⟩ (Nat.le_refl _) ?_
        refine Shr.of ?_ ?_ rfl rfl
        · show Rel _ _ (La b _ (j + 1)) _
          unfold La
          (repeat' first | exact Rel.e | refine Rel.some ?_ ?_ ?_ | refine Rel.none ?_ ?_ | refine Rel.ee ?_ ?_)
          all_goals show Fz _ _ _ _
          all_goals first | exact .pu trivial | exact .kpt (show _ < 3 by simp [Pos.nat])
        · show Rel _ _ (Lb b (iQ p _ (j + 1))) _
          unfold Lb
          (repeat' first | exact Rel.e | refine Rel.some ?_ ?_ ?_ | refine Rel.none ?_ ?_ | refine Rel.ee ?_ ?_)
          all_goals first
            | exact RO'.of (show _ < 3 by simp [Pos.nat]) (bL b)
            | exact RO'.of (show _ < 3 by simp [Pos.nat]) (ShC.same (ShC.cn (.pu trivial) (ShC.cn (.pu trivial) ShC.nl)))
  · obtain rfl : j = b.rch.toNat := by omega
    repeat' first | ((first | refine Qz ?_ | refine Qy ?_) <;> conv => whnf) | (refine WB.tt ?_; conv => whnf) | (refine WB.ff ?_; conv => whnf)
    exact Fin.b rfl ha.symm
def HC (b : Bh) (p : Int × Int) (face d : Int) : Bool := decide (face = iY d) || iH b p d b.rch.toNat
def sF (t : Bool) : Int := if t = true then 1 else 0
structure Hr where
  sun : Int
  calm : Int
  good : Int
def fZ (x : Hr) : List D := [.i .i64 x.sun, .i .i64 x.calm, .i .i64 x.good]
def qY (b : Bh) (p : Int × Int) (face : Int) (h : Nat) (d : Int) : Hr := ⟨sF (decide (face = b.sun.getD h 0)), sF (HC b p face d), sF (decide (face = b.sun.getD h 0)) * sF (HC b p face d)⟩
def Dr (x y : Hr) : Hr := ⟨x.sun + y.sun, x.calm + y.calm, x.good + y.good⟩
def Nt (h : Nat) (F : Nat → Int) (d : Int) : List D := [.i .i64 (h : Int), .i .i64 (F 0), .i .i64 (F 1), .i .i64 (F 2), .i .i64 d]
theorem HG {h : Nat} (k : h < 3) : h = 0 ∨ h = 1 ∨ h = 2 := by omega
set_option maxHeartbeats 4000000 in
theorem FY (b : Bh) (V : VW b) (p : Int × Int) (hp : eK b p = true) (F : Nat → Int) (h : Nat) (hh : h < b.sun.length) (d : Int) (hd : 0 ≤ d ∧ d ≤ 3) (l4 : b.brk.length ≤ 1000) : PureF Tryz.prog p123.ix [.ag (dV b), .ag (Nt h F d), .ag (cV p)] (.ag (fZ (qY b p (F p.1.toNat) h d))) := by
  have hsun := aL b.sun
  have h4 := V.rws
  have hp2 := hp
  unfold eK at hp2
  rw [Bool.and_eq_true] at hp2
  have hpa := bF hp2.1
  have cO := xY d hd
  have cB := xZ b V p hp d hd l4
  obtain ⟨r, hr⟩ := Int.eq_ofNat_of_zero_le hpa.1
  have hr3 : r < 3 := by omega
  have hpr : p.1.toNat = r := by rw [hr]; rfl
  rw [hpr]
  unfold qY HC
  refine PureF.run Io (by simp) (by simp [aN, Pu, aO, cV, Nt]) ?_; conv => whnf
  cases hB : iH b p d b.rch.toNat
  all_goals
    rw [hB] at cB
    by_cases k1 : F r = b.sun.getD h 0
    all_goals
      by_cases k2 : F r = iY d
      all_goals
        first | rw [decide_eq_true k1] | rw [decide_eq_false k1]
        first | rw [decide_eq_true k2] | rw [decide_eq_false k2]
        rcases HG hr3 with rfl | rfl | rfl
        all_goals
          repeat' first | ((first | refine Qz ?_ | refine Qy ?_) <;> conv => whnf) | (refine WB.tt ?_; conv => whnf) | (refine WB.ff ?_; conv => whnf)
          refine WSt.ixaN (m := _) rfl rfl hr (by decide) ?_; conv => whnf
          repeat' first | ((first | refine Qz ?_ | refine Qf (cO) ?_ | refine Qf (cB) ?_ | refine WIx.intsN hh ?_ | refine Qy ?_) <;> conv => whnf) | (refine WB.tt ?_; conv => whnf) | (refine WB.ff ?_; conv => whnf)
          exact ⟨.inr rfl, _, rfl, .pu (by simp [one, Pu, aN, fZ])⟩
theorem Hz (x y : Hr) (h1 : (-100 ≤ x.sun ∧ x.sun ≤ 100) ∧ (-100 ≤ x.calm ∧ x.calm ≤ 100) ∧ (-100 ≤ x.good ∧ x.good ≤ 100)) (h2 : (-100 ≤ y.sun ∧ y.sun ≤ 100) ∧ (-100 ≤ y.calm ∧ y.calm ≤ 100) ∧ (-100 ≤ y.good ∧ y.good ≤ 100)) : PureF Tryz.prog p122.ix [.ag (fZ x), .ag (fZ y)] (.ag (fZ (Dr x y))) := by
  refine PureF.run IR (by simp) (by simp [aN, Pu, fZ]) ?_; conv => whnf
  repeat' first | ((first | refine Qz ?_ | refine Qy ?_) <;> conv => whnf) | (refine WB.tt ?_; conv => whnf) | (refine WB.ff ?_; conv => whnf)
  exact ⟨.inr rfl, _, rfl, .pu (by simp [one, Pu, aN, fZ])⟩
def gI (S : Nat → Nat → Int) : List D := [.i .i64 (S 0 0), .i .i64 (S 0 1), .i .i64 (S 0 2), .i .i64 (S 1 0), .i .i64 (S 1 1), .i .i64 (S 1 2), .i .i64 (S 2 0), .i .i64 (S 2 1), .i .i64 (S 2 2), .i .i64 (S 3 0), .i .i64 (S 3 1), .i .i64 (S 3 2), .i .i64 (S 4 0), .i .i64 (S 4 1), .i .i64 (S 4 2)]
theorem eS (S : Nat → Nat → Int) : aN (gI S) := by simp [gI, aN, Pu]
def gB (b : Bh) (S : Nat → Nat → Int) (p : Int × Int) (t : List Int) : Nat → Hr
  | 0 => ⟨0, 0, 0⟩
  | j + 1 => Dr (gB b S p t j) (qY b p (S j p.1.toNat) j (t.getD j 0))
theorem CI (t : Bool) : 0 ≤ sF t ∧ sF t ≤ 1 := by unfold sF; split <;> omega
theorem CR (b : Bh) (p : Int × Int) (f : Int) (h : Nat) (d : Int) : (0 ≤ (qY b p f h d).sun ∧ (qY b p f h d).sun ≤ 1) ∧ (0 ≤ (qY b p f h d).calm ∧ (qY b p f h d).calm ≤ 1) ∧ (0 ≤ (qY b p f h d).good ∧ (qY b p f h d).good ≤ 1) := by
  unfold qY
  have h1 := CI (decide (f = b.sun.getD h 0))
  have h2 := CI (HC b p f d)
  refine ⟨h1, h2, Int.mul_nonneg h1.1 h2.1, ?_⟩
  have := Int.mul_le_mul h1.2 h2.2 h2.1 (by omega)
  simpa using this
theorem wZ (b : Bh) (S : Nat → Nat → Int) (p : Int × Int) (t : List Int) : ∀ j : Nat, (0 ≤ (gB b S p t j).sun ∧ (gB b S p t j).sun ≤ j) ∧ (0 ≤ (gB b S p t j).calm ∧ (gB b S p t j).calm ≤ j) ∧ (0 ≤ (gB b S p t j).good ∧ (gB b S p t j).good ≤ j)
  | 0 => by simp [gB]
  | j + 1 => by
    have h := wZ b S p t j
    have k := CR b p (S j p.1.toNat) j (t.getD j 0)
    show (0 ≤ (gB b S p t j).sun + _ ∧ (gB b S p t j).sun + _ ≤ _) ∧ (0 ≤ (gB b S p t j).calm + _ ∧ (gB b S p t j).calm + _ ≤ _) ∧ (0 ≤ (gB b S p t j).good + _ ∧ (gB b S p t j).good + _ ≤ _)
    omega
set_option maxHeartbeats 4000000 in
theorem Dq (b : Bh) (V : VW b) (S : Nat → Nat → Int) (p : Int × Int) (hp : eK b p = true) (t : List Int) (ht : t.length ≤ b.sun.length) (hd : ∀ d ∈ t, 0 ≤ d ∧ d ≤ 3) (l4 : b.brk.length ≤ 1000) : PureF Tryz.prog p87.ix [.ag (dV b), .ag (gI S), .lst 1 (ints t), .ag (cV p)] (.ag (fZ (gB b S p t t.length))) := by
  have e1 := aL t
  have hv := V.last
  have hs := V.sunl
  refine PureF.run LQ (by simp) (by simp [aN, dE, Pu, aO, cV, eS, aB]) ?_; conv => whnf
  repeat' first | ((first | refine Qz ?_ | refine Qy ?_) <;> conv => whnf) | (refine WB.tt ?_; conv => whnf) | (refine WB.ff ?_; conv => whnf)
  refine Rn.loop (fun j : Nat => ⟨(.n (.n (.n (.n .e (some (.pt (.i .h) 0 0)) .e) none .e) none (.n (.n .e (some (.pt (.i (.o .h)) 0 0)) .e) (some (.pt (.o .h) 0 0)) (.n .e (some (.i .i64 (t.length : Int))) .e))) none (.n (.n (.n .e (some (.pt (.o (.o .h)) 0 0)) .e) (some (.pt .h 0 0)) (.n .e (some (.lst 1 (ints t))) .e)) none (.n .e none (.n .e (some (.i .i64 (j : Int))) .e)))), .n (.n (.n .e (some (.cells false ((fZ ⟨0, 0, 0⟩).map fun d => Cell.o d 0) 1)) .e) (some (.cells false ((gI S).map fun d => Cell.o d 0) 1)) .e) (some (lK b)) (.n (.n .e (some (.cells false ((fZ (gB b S p t j)).map fun d => Cell.o d 0) 1)) .e) (some (.cells false ((cV p).map fun d => Cell.o d 0) 1)) .e), .o (.i .h), none⟩) (fun j => j ≤ t.length) (fun j => t.length - j) 0 ?_ (Nat.zero_le _) ?_
  · refine X.le.mk ?_ ?_ (Nat.le_refl _) rfl rfl
    all_goals (try rw [← e1])
    all_goals (repeat' first | exact T.le_e _ | exact T.le_refl _ | refine T.le_some ?_ rfl ?_ | refine T.le_none ?_ ?_ | refine T.le_ee ?_ ?_)
  intro j hj
  have hj : j ≤ t.length := hj
  conv => whnf
  repeat' first | ((first | refine Qz ?_ | refine Qy ?_) <;> conv => whnf) | (refine WB.tt ?_; conv => whnf) | (refine WB.ff ?_; conv => whnf)
  refine WB.dec (fun h => ?_) (fun h => ?_) <;> conv => whnf
  · have hlt : j < t.length := by omega
    have h5 : j < 5 := by omega
    have hdj := hd _ (aR (d := 0) hlt)
    have cH := FY b V p hp (S j) j (by omega) (t.getD j 0) hdj l4
    have bd1 := wZ b S p t j
    have bd2 := CR b p (S j p.1.toNat) j (t.getD j 0)
    have cP := Hz (gB b S p t j) (qY b p (S j p.1.toNat) j (t.getD j 0)) (by omega) (by omega)
    rcases vU h5 with rfl | rfl | rfl | rfl | rfl
    · repeat' first | ((first | refine Qz ?_ | refine WIx.intsN hlt ?_ | refine Qy ?_) <;> conv => whnf) | (refine WB.tt ?_; conv => whnf) | (refine WB.ff ?_; conv => whnf)
      refine WSt.ixaN (m := 0) rfl rfl rfl (by decide) ?_; conv => whnf
      repeat' first | ((first | refine Qz ?_ | refine Qf (cH) ?_ | refine Qf (cP) ?_ | refine Qy ?_) <;> conv => whnf) | (refine WB.tt ?_; conv => whnf) | (refine WB.ff ?_; conv => whnf)
      refine Again.to (0 + 1) (by omega) (show 0 + 1 ≤ t.length by omega) (Nat.le_refl _) ?_
      refine Shr.of ?_ ?_ rfl rfl
      · show Rel _ _ ((.n (.n (.n (.n .e (some (.pt (.i .h) 0 0)) .e) none .e) none (.n (.n .e (some (.pt (.i (.o .h)) 0 0)) .e) (some (.pt (.o .h) 0 0)) (.n .e (some (.i .i64 (t.length : Int))) .e))) none (.n (.n (.n .e (some (.pt (.o (.o .h)) 0 0)) .e) (some (.pt .h 0 0)) (.n .e (some (.lst 1 (ints t))) .e)) none (.n .e none (.n .e (some (.i .i64 ((0 + 1 : Nat) : Int))) .e)))) : T D) _
        (repeat' first | exact Rel.e | refine Rel.some ?_ ?_ ?_ | refine Rel.none ?_ ?_ | refine Rel.ee ?_ ?_)
        all_goals show Fz _ _ _ _
        all_goals first | exact .pu trivial | exact .pu (aB _) | exact .pu (aF _) | exact .kpt (show _ < 6 by simp [Pos.nat])
      · show Rel _ _ (.n (.n (.n .e (some (.cells false ((fZ ⟨0, 0, 0⟩).map fun d => Cell.o d 0) 1)) .e) (some (.cells false ((gI S).map fun d => Cell.o d 0) 1)) .e) (some (lK b)) (.n (.n .e (some (.cells false ((fZ (gB b S p t (0 + 1))).map fun d => Cell.o d 0) 1)) .e) (some (.cells false ((cV p).map fun d => Cell.o d 0) 1)) .e) : T C) _
        (repeat' first | exact Rel.e | refine Rel.some ?_ ?_ ?_ | refine Rel.none ?_ ?_ | refine Rel.ee ?_ ?_)
        all_goals first
          | exact RO'.of (show _ < 6 by simp [Pos.nat]) (bL b)
          | (refine RO'.of (show _ < 6 by simp [Pos.nat]) (ShC.same ?_); (repeat' first | exact ShC.nl | refine ShC.cn ?_ ?_) <;> exact .pu trivial)
    · repeat' first | ((first | refine Qz ?_ | refine WIx.intsN hlt ?_ | refine Qy ?_) <;> conv => whnf) | (refine WB.tt ?_; conv => whnf) | (refine WB.ff ?_; conv => whnf)
      refine WSt.ixaN (m := 1) rfl rfl rfl (by decide) ?_; conv => whnf
      repeat' first | ((first | refine Qz ?_ | refine Qf (cH) ?_ | refine Qf (cP) ?_ | refine Qy ?_) <;> conv => whnf) | (refine WB.tt ?_; conv => whnf) | (refine WB.ff ?_; conv => whnf)
      refine Again.to (1 + 1) (by omega) (show 1 + 1 ≤ t.length by omega) (Nat.le_refl _) ?_
      refine Shr.of ?_ ?_ rfl rfl
      · show Rel _ _ ((.n (.n (.n (.n .e (some (.pt (.i .h) 0 0)) .e) none .e) none (.n (.n .e (some (.pt (.i (.o .h)) 0 0)) .e) (some (.pt (.o .h) 0 0)) (.n .e (some (.i .i64 (t.length : Int))) .e))) none (.n (.n (.n .e (some (.pt (.o (.o .h)) 0 0)) .e) (some (.pt .h 0 0)) (.n .e (some (.lst 1 (ints t))) .e)) none (.n .e none (.n .e (some (.i .i64 ((1 + 1 : Nat) : Int))) .e)))) : T D) _
        (repeat' first | exact Rel.e | refine Rel.some ?_ ?_ ?_ | refine Rel.none ?_ ?_ | refine Rel.ee ?_ ?_)
        all_goals show Fz _ _ _ _
        all_goals first | exact .pu trivial | exact .pu (aB _) | exact .pu (aF _) | exact .kpt (show _ < 6 by simp [Pos.nat])
      · show Rel _ _ (.n (.n (.n .e (some (.cells false ((fZ ⟨0, 0, 0⟩).map fun d => Cell.o d 0) 1)) .e) (some (.cells false ((gI S).map fun d => Cell.o d 0) 1)) .e) (some (lK b)) (.n (.n .e (some (.cells false ((fZ (gB b S p t (1 + 1))).map fun d => Cell.o d 0) 1)) .e) (some (.cells false ((cV p).map fun d => Cell.o d 0) 1)) .e) : T C) _
        (repeat' first | exact Rel.e | refine Rel.some ?_ ?_ ?_ | refine Rel.none ?_ ?_ | refine Rel.ee ?_ ?_)
        all_goals first
          | exact RO'.of (show _ < 6 by simp [Pos.nat]) (bL b)
          | (refine RO'.of (show _ < 6 by simp [Pos.nat]) (ShC.same ?_); (repeat' first | exact ShC.nl | refine ShC.cn ?_ ?_) <;> exact .pu trivial)
    · repeat' first | ((first | refine Qz ?_ | refine WIx.intsN hlt ?_ | refine Qy ?_) <;> conv => whnf) | (refine WB.tt ?_; conv => whnf) | (refine WB.ff ?_; conv => whnf)
      refine WSt.ixaN (m := 2) rfl rfl rfl (by decide) ?_; conv => whnf
      repeat' first | ((first | refine Qz ?_ | refine Qf (cH) ?_ | refine Qf (cP) ?_ | refine Qy ?_) <;> conv => whnf) | (refine WB.tt ?_; conv => whnf) | (refine WB.ff ?_; conv => whnf)
      refine Again.to (2 + 1) (by omega) (show 2 + 1 ≤ t.length by omega) (Nat.le_refl _) ?_
      refine Shr.of ?_ ?_ rfl rfl
      · show Rel _ _ ((.n (.n (.n (.n .e (some (.pt (.i .h) 0 0)) .e) none .e) none (.n (.n .e (some (.pt (.i (.o .h)) 0 0)) .e) (some (.pt (.o .h) 0 0)) (.n .e (some (.i .i64 (t.length : Int))) .e))) none (.n (.n (.n .e (some (.pt (.o (.o .h)) 0 0)) .e) (some (.pt .h 0 0)) (.n .e (some (.lst 1 (ints t))) .e)) none (.n .e none (.n .e (some (.i .i64 ((2 + 1 : Nat) : Int))) .e)))) : T D) _
        (repeat' first | exact Rel.e | refine Rel.some ?_ ?_ ?_ | refine Rel.none ?_ ?_ | refine Rel.ee ?_ ?_)
        all_goals show Fz _ _ _ _
        all_goals first | exact .pu trivial | exact .pu (aB _) | exact .pu (aF _) | exact .kpt (show _ < 6 by simp [Pos.nat])
      · show Rel _ _ (.n (.n (.n .e (some (.cells false ((fZ ⟨0, 0, 0⟩).map fun d => Cell.o d 0) 1)) .e) (some (.cells false ((gI S).map fun d => Cell.o d 0) 1)) .e) (some (lK b)) (.n (.n .e (some (.cells false ((fZ (gB b S p t (2 + 1))).map fun d => Cell.o d 0) 1)) .e) (some (.cells false ((cV p).map fun d => Cell.o d 0) 1)) .e) : T C) _
        (repeat' first | exact Rel.e | refine Rel.some ?_ ?_ ?_ | refine Rel.none ?_ ?_ | refine Rel.ee ?_ ?_)
        all_goals first
          | exact RO'.of (show _ < 6 by simp [Pos.nat]) (bL b)
          | (refine RO'.of (show _ < 6 by simp [Pos.nat]) (ShC.same ?_); (repeat' first | exact ShC.nl | refine ShC.cn ?_ ?_) <;> exact .pu trivial)
    · repeat' first | ((first | refine Qz ?_ | refine WIx.intsN hlt ?_ | refine Qy ?_) <;> conv => whnf) | (refine WB.tt ?_; conv => whnf) | (refine WB.ff ?_; conv => whnf)
      refine WSt.ixaN (m := 3) rfl rfl rfl (by decide) ?_; conv => whnf
      repeat' first | ((first | refine Qz ?_ | refine Qf (cH) ?_ | refine Qf (cP) ?_ | refine Qy ?_) <;> conv => whnf) | (refine WB.tt ?_; conv => whnf) | (refine WB.ff ?_; conv => whnf)
      refine Again.to (3 + 1) (by omega) (show 3 + 1 ≤ t.length by omega) (Nat.le_refl _) ?_
      refine Shr.of ?_ ?_ rfl rfl
      · show Rel _ _ ((.n (.n (.n (.n .e (some (.pt (.i .h) 0 0)) .e) none .e) none (.n (.n .e (some (.pt (.i (.o .h)) 0 0)) .e) (some (.pt (.o .h) 0 0)) (.n .e (some (.i .i64 (t.length : Int))) .e))) none (.n (.n (.n .e (some (.pt (.o (.o .h)) 0 0)) .e) (some (.pt .h 0 0)) (.n .e (some (.lst 1 (ints t))) .e)) none (.n .e none (.n .e (some (.i .i64 ((3 + 1 : Nat) : Int))) .e)))) : T D) _
        (repeat' first | exact Rel.e | refine Rel.some ?_ ?_ ?_ | refine Rel.none ?_ ?_ | refine Rel.ee ?_ ?_)
        all_goals show Fz _ _ _ _
        all_goals first | exact .pu trivial | exact .pu (aB _) | exact .pu (aF _) | exact .kpt (show _ < 6 by simp [Pos.nat])
      · show Rel _ _ (.n (.n (.n .e (some (.cells false ((fZ ⟨0, 0, 0⟩).map fun d => Cell.o d 0) 1)) .e) (some (.cells false ((gI S).map fun d => Cell.o d 0) 1)) .e) (some (lK b)) (.n (.n .e (some (.cells false ((fZ (gB b S p t (3 + 1))).map fun d => Cell.o d 0) 1)) .e) (some (.cells false ((cV p).map fun d => Cell.o d 0) 1)) .e) : T C) _
        (repeat' first | exact Rel.e | refine Rel.some ?_ ?_ ?_ | refine Rel.none ?_ ?_ | refine Rel.ee ?_ ?_)
        all_goals first
          | exact RO'.of (show _ < 6 by simp [Pos.nat]) (bL b)
          | (refine RO'.of (show _ < 6 by simp [Pos.nat]) (ShC.same ?_); (repeat' first | exact ShC.nl | refine ShC.cn ?_ ?_) <;> exact .pu trivial)
    · repeat' first | ((first | refine Qz ?_ | refine WIx.intsN hlt ?_ | refine Qy ?_) <;> conv => whnf) | (refine WB.tt ?_; conv => whnf) | (refine WB.ff ?_; conv => whnf)
      refine WSt.ixaN (m := 4) rfl rfl rfl (by decide) ?_; conv => whnf
      repeat' first | ((first | refine Qz ?_ | refine Qf (cH) ?_ | refine Qf (cP) ?_ | refine Qy ?_) <;> conv => whnf) | (refine WB.tt ?_; conv => whnf) | (refine WB.ff ?_; conv => whnf)
      refine Again.to (4 + 1) (by omega) (show 4 + 1 ≤ t.length by omega) (Nat.le_refl _) ?_
      refine Shr.of ?_ ?_ rfl rfl
      · show Rel _ _ ((.n (.n (.n (.n .e (some (.pt (.i .h) 0 0)) .e) none .e) none (.n (.n .e (some (.pt (.i (.o .h)) 0 0)) .e) (some (.pt (.o .h) 0 0)) (.n .e (some (.i .i64 (t.length : Int))) .e))) none (.n (.n (.n .e (some (.pt (.o (.o .h)) 0 0)) .e) (some (.pt .h 0 0)) (.n .e (some (.lst 1 (ints t))) .e)) none (.n .e none (.n .e (some (.i .i64 ((4 + 1 : Nat) : Int))) .e)))) : T D) _
        (repeat' first | exact Rel.e | refine Rel.some ?_ ?_ ?_ | refine Rel.none ?_ ?_ | refine Rel.ee ?_ ?_)
        all_goals show Fz _ _ _ _
        all_goals first | exact .pu trivial | exact .pu (aB _) | exact .pu (aF _) | exact .kpt (show _ < 6 by simp [Pos.nat])
      · show Rel _ _ (.n (.n (.n .e (some (.cells false ((fZ ⟨0, 0, 0⟩).map fun d => Cell.o d 0) 1)) .e) (some (.cells false ((gI S).map fun d => Cell.o d 0) 1)) .e) (some (lK b)) (.n (.n .e (some (.cells false ((fZ (gB b S p t (4 + 1))).map fun d => Cell.o d 0) 1)) .e) (some (.cells false ((cV p).map fun d => Cell.o d 0) 1)) .e) : T C) _
        (repeat' first | exact Rel.e | refine Rel.some ?_ ?_ ?_ | refine Rel.none ?_ ?_ | refine Rel.ee ?_ ?_)
        all_goals first
          | exact RO'.of (show _ < 6 by simp [Pos.nat]) (bL b)
          | (refine RO'.of (show _ < 6 by simp [Pos.nat]) (ShC.same ?_); (repeat' first | exact ShC.nl | refine ShC.cn ?_ ?_) <;> exact .pu trivial)
  · obtain rfl : j = t.length := by omega
    repeat' first | ((first | refine Qz ?_ | refine Qy ?_) <;> conv => whnf) | (refine WB.tt ?_; conv => whnf) | (refine WB.ff ?_; conv => whnf)
    exact ⟨.inr rfl, _, rfl, .pu (by simp [one, Pu, aN, fZ])⟩
theorem MP {l : List Int} (h : l.length ≤ 3) : l = [] ∨ (∃ a, l = [a]) ∨ (∃ a b, l = [a, b]) ∨ ∃ a b c, l = [a, b, c] := by
  match l, h with
  | [], _ => exact .inl rfl
  | [a], _ => exact .inr (.inl ⟨a, rfl⟩)
  | [a, b], _ => exact .inr (.inr (.inl ⟨a, b, rfl⟩))
  | [a, b, c], _ => exact .inr (.inr (.inr ⟨a, b, c, rfl⟩))
  | _ :: _ :: _ :: _ :: _, h => exact absurd h (by simp)
def NC (F : Nat → Int) : List D := [.i .i64 (F 0), .i .i64 (F 1), .i .i64 (F 2)]
theorem Fh (l : List Int) (h1 : 1 ≤ l.length) (h : l.length ≤ 3) : PureF Tryz.prog p107.ix [.lst 1 (ints l)] (.ag (NC fun r => l.getD r 0)) := by
  refine PureF.run JA (by simp) (by simp [aN, dE, Pu, aB]) ?_; conv => whnf
  rcases MP h with rfl | ⟨a, rfl⟩ | ⟨a, b, rfl⟩ | ⟨a, b, c, rfl⟩
  · exact absurd h1 (by decide)
  all_goals
    repeat' first | ((first | refine Qz ?_ | refine Qy ?_) <;> conv => whnf) | (refine WB.tt ?_; conv => whnf) | (refine WB.ff ?_; conv => whnf)
    refine ⟨_, rfl, ?_⟩; conv => whnf
    repeat' first | ((first | refine Qz ?_ | refine Qy ?_) <;> conv => whnf) | (refine WB.tt ?_; conv => whnf) | (refine WB.ff ?_; conv => whnf)
    refine ⟨_, rfl, ?_⟩; conv => whnf
    repeat' first | ((first | refine Qz ?_ | refine Qy ?_) <;> conv => whnf) | (refine WB.tt ?_; conv => whnf) | (refine WB.ff ?_; conv => whnf)
    exact ⟨.inr rfl, _, rfl, .pu (by simp [one, Pu, aN])⟩
def KM (L : List (List Int)) (j h r : Nat) : Int := bif Nat.blt h j then (L.getD h default).getD r 0 else 0
def qN (L : List (List Int)) (h r : Nat) : Int := (L.getD h default).getD r 0
theorem Gf (L : List (List Int)) (h r : Nat) : KM L L.length h r = qN L h r := by
 unfold KM qN
 cases hb : Nat.blt h L.length with
 | true => rfl
 | false =>
   have : ¬ h < L.length := fun k => by rw [show Nat.blt h L.length = true from Nat.ble_eq_true_of_le k] at hb; cases hb
   have e : L.getD h default = [] := by simp [List.getD, this]; rfl
   rw [e]; rfl
theorem uM (L : List (List Int)) (h5 : L.length <= 5) (h3 : ∀ w ∈ L, 1 <= w.length /\ w.length <= 3) : PureF Tryz.prog p84.ix [.lst 1 (aJ fI L)] (.ag (gI (qN L))) := by
 have e1 := aK fI L
 have he : gI (qN L) = gI (KM L L.length) := by simp only [gI, Gf]
 rw [he]
 refine PureF.run Mj (by simp) (by simp [aN, dE, Pu, aF]) ?_; conv => whnf
 repeat' ((first | refine Qw ?_ | refine Qv ?_) <;> conv => whnf)
 refine Rn.loop (fun j : Nat => ⟨(.n (.n (.n (.n .e (some (.i .i64 (L.length : Int))) .e) (some (.pt (.o .h) 0 0)) .e) none .e) none (.n (.n (.n .e (some (.i .i64 (j : Int))) .e) none .e) (some (.pt .h 0 0)) (.n .e (some (.lst 1 (aJ fI L))) .e))), .n (.n .e (some (.cells false ((gI (KM L j)).map fun d => Cell.o d 0) 1)) .e) (some (.cells false ((gI fun _ _ => 0).map fun d => Cell.o d 0) 1)) .e, .i .h, none⟩) (fun j => j <= L.length) (fun j => L.length - j) 0 ?_ (Nat.zero_le _) ?_
 ·refine X.le.mk ?_ ?_ (Nat.le_refl _) rfl rfl
  all_goals (try rw [<- e1])
  all_goals (repeat' first | exact T.le_e _ | exact T.le_refl _ | refine T.le_some ?_ rfl ?_ | refine T.le_none ?_ ?_ | refine T.le_ee ?_ ?_)
 intro j hj
 have hj : j <= L.length := hj
 conv => whnf
 repeat' ((first | refine Qw ?_ | refine Qv ?_) <;> conv => whnf)
 refine WB.dec (fun h => ?_) (fun h => ?_) <;> conv => whnf
 ·have hlt : j < L.length := by omega
  have hj5 : j < 5 := by omega
  have cF := Fh (L.getD j default) (h3 _ (aR hlt)).1 (h3 _ (aR hlt)).2
  rcases vU hj5 with rfl | rfl | rfl | rfl | rfl
  ·repeat' ((first | refine Qz ?_ | refine Qf cF ?_ | refine WIx.rowsN hlt ?_ | refine Qy ?_ | refine Qv ?_) <;> conv => whnf)
   refine WSt.ixaN (m := 0) rfl rfl rfl (by decide) ?_; conv => whnf
   repeat' ((first | refine Qw ?_ | refine Qv ?_) <;> conv => whnf)
   refine Again.to (0 + 1) (by omega) (show 0 + 1 <= L.length by omega) (Nat.le_refl _) ?_
   refine Shr.of ?_ ?_ rfl rfl
   ·(repeat' first | exact Rel.e | refine Rel.some ?_ ?_ ?_ | refine Rel.none ?_ ?_ | refine Rel.ee ?_ ?_)
    all_goals show Fz _ _ _ _
    all_goals first | exact .pu trivial | exact .pu (aB _) | exact .pu (aF _) | exact .kpt (Ql rfl)
   ·(repeat' first | exact Rel.e | refine Rel.some ?_ ?_ ?_ | refine Rel.none ?_ ?_ | refine Rel.ee ?_ ?_)
    all_goals first
     | exact Ro (bL b)
     | (refine Ro (ShC.same ?_); (repeat' first | exact ShC.nl | refine ShC.cn ?_ ?_) <;> exact .pu trivial)
  ·repeat' ((first | refine Qz ?_ | refine Qf cF ?_ | refine WIx.rowsN hlt ?_ | refine Qy ?_ | refine Qv ?_) <;> conv => whnf)
   refine WSt.ixaN (m := 1) rfl rfl rfl (by decide) ?_; conv => whnf
   repeat' ((first | refine Qw ?_ | refine Qv ?_) <;> conv => whnf)
   refine Again.to (1 + 1) (by omega) (show 1 + 1 <= L.length by omega) (Nat.le_refl _) ?_
   refine Shr.of ?_ ?_ rfl rfl
   ·(repeat' first | exact Rel.e | refine Rel.some ?_ ?_ ?_ | refine Rel.none ?_ ?_ | refine Rel.ee ?_ ?_)
    all_goals show Fz _ _ _ _
    all_goals first | exact .pu trivial | exact .pu (aB _) | exact .pu (aF _) | exact .kpt (Ql rfl)
   ·(repeat' first | exact Rel.e | refine Rel.some ?_ ?_ ?_ | refine Rel.none ?_ ?_ | refine Rel.ee ?_ ?_)
    all_goals first
     | exact Ro (bL b)
     | (refine Ro (ShC.same ?_); (repeat' first | exact ShC.nl | refine ShC.cn ?_ ?_) <;> exact .pu trivial)
  ·repeat' ((first | refine Qz ?_ | refine Qf cF ?_ | refine WIx.rowsN hlt ?_ | refine Qy ?_ | refine Qv ?_) <;> conv => whnf)
   refine WSt.ixaN (m := 2) rfl rfl rfl (by decide) ?_; conv => whnf
   repeat' ((first | refine Qw ?_ | refine Qv ?_) <;> conv => whnf)
   refine Again.to (2 + 1) (by omega) (show 2 + 1 <= L.length by omega) (Nat.le_refl _) ?_
   refine Shr.of ?_ ?_ rfl rfl
   ·(repeat' first | exact Rel.e | refine Rel.some ?_ ?_ ?_ | refine Rel.none ?_ ?_ | refine Rel.ee ?_ ?_)
    all_goals show Fz _ _ _ _
    all_goals first | exact .pu trivial | exact .pu (aB _) | exact .pu (aF _) | exact .kpt (Ql rfl)
   ·(repeat' first | exact Rel.e | refine Rel.some ?_ ?_ ?_ | refine Rel.none ?_ ?_ | refine Rel.ee ?_ ?_)
    all_goals first
     | exact Ro (bL b)
     | (refine Ro (ShC.same ?_); (repeat' first | exact ShC.nl | refine ShC.cn ?_ ?_) <;> exact .pu trivial)
  ·repeat' ((first | refine Qz ?_ | refine Qf cF ?_ | refine WIx.rowsN hlt ?_ | refine Qy ?_ | refine Qv ?_) <;> conv => whnf)
   refine WSt.ixaN (m := 3) rfl rfl rfl (by decide) ?_; conv => whnf
   repeat' ((first | refine Qw ?_ | refine Qv ?_) <;> conv => whnf)
   refine Again.to (3 + 1) (by omega) (show 3 + 1 <= L.length by omega) (Nat.le_refl _) ?_
   refine Shr.of ?_ ?_ rfl rfl
   ·(repeat' first | exact Rel.e | refine Rel.some ?_ ?_ ?_ | refine Rel.none ?_ ?_ | refine Rel.ee ?_ ?_)
    all_goals show Fz _ _ _ _
    all_goals first | exact .pu trivial | exact .pu (aB _) | exact .pu (aF _) | exact .kpt (Ql rfl)
   ·(repeat' first | exact Rel.e | refine Rel.some ?_ ?_ ?_ | refine Rel.none ?_ ?_ | refine Rel.ee ?_ ?_)
    all_goals first
     | exact Ro (bL b)
     | (refine Ro (ShC.same ?_); (repeat' first | exact ShC.nl | refine ShC.cn ?_ ?_) <;> exact .pu trivial)
  ·repeat' ((first | refine Qz ?_ | refine Qf cF ?_ | refine WIx.rowsN hlt ?_ | refine Qy ?_ | refine Qv ?_) <;> conv => whnf)
   refine WSt.ixaN (m := 4) rfl rfl rfl (by decide) ?_; conv => whnf
   repeat' ((first | refine Qw ?_ | refine Qv ?_) <;> conv => whnf)
   refine Again.to (4 + 1) (by omega) (show 4 + 1 <= L.length by omega) (Nat.le_refl _) ?_
   refine Shr.of ?_ ?_ rfl rfl
   ·(repeat' first | exact Rel.e | refine Rel.some ?_ ?_ ?_ | refine Rel.none ?_ ?_ | refine Rel.ee ?_ ?_)
    all_goals show Fz _ _ _ _
    all_goals first | exact .pu trivial | exact .pu (aB _) | exact .pu (aF _) | exact .kpt (Ql rfl)
   ·(repeat' first | exact Rel.e | refine Rel.some ?_ ?_ ?_ | refine Rel.none ?_ ?_ | refine Rel.ee ?_ ?_)
    all_goals first
     | exact Ro (bL b)
     | (refine Ro (ShC.same ?_); (repeat' first | exact ShC.nl | refine ShC.cn ?_ ?_) <;> exact .pu trivial)
 ·obtain rfl : j = L.length := by omega
  repeat' ((first | refine Qw ?_ | refine Qv ?_) <;> conv => whnf)
  exact ⟨.inr rfl, _, rfl, .pu (by simp [one, Pu, aN, gI])⟩
def uY (b : Bh) (L : List (List Int)) : Bool := decide ((L.length : Int) = b.last + 1) && L.all (vK b)
theorem Dg (b : Bh) (L : List (List Int)) (h0 : -9223372036854775808 <= b.last + 1 /\ b.last + 1 <= 9223372036854775807) (h1 : L.length <= 1000) (h2 : ∀ w ∈ L, w.length <= 1000) : PureF Tryz.prog p82.ix [.ag (dV b), .lst 1 (aJ fI L)] (.b (uY b L)) := by
 have e1 := aK fI L
 have cA := Ek L p117 [.ag (dV b)] [] (vK b) (by simp [aN, Pu, aO]) trivial h1 (fun w hw => uL b w (h2 w hw))
 refine PureF.run Me (by simp) (by simp [aN, Pu, aO, aF]) ?_; conv => whnf
 unfold uY
 by_cases k : (L.length : Int) = b.last + 1
 rotate_left
 ·rw [decide_eq_false k]
  repeat' first | ((first | refine Qw ?_ | refine Qd (fun h => ?_) (fun h => ?_)) <;> conv => whnf) | (refine WB.tt ?_; conv => whnf) | (refine WB.ff ?_; conv => whnf)
  exact Fin.b rfl rfl
 rw [decide_eq_true k]
 repeat' first | ((first | refine Qw ?_ | refine Qf cA ?_ | refine Qd (fun h => ?_) (fun h => ?_)) <;> conv => whnf) | (refine WB.tt ?_; conv => whnf) | (refine WB.ff ?_; conv => whnf)
 exact Fin.b rfl rfl
namespace T
variable {α : Type}
def nL {β : Type} (p : Pos) (v : Option α) : T α → (T α → β) → β :=
  Pos.rec (fun t k => T.casesOn t (k (.n .e v .e)) (fun l _ r => k (.n l v r)))
    (fun _ ih t k => T.casesOn t (ih .e fun l => k (.n l none .e)) (fun l w r => ih l fun l => k (.n l w r)))
    (fun _ ih t k => T.casesOn t (ih .e fun r => k (.n .e none r)) (fun l w r => ih r fun r => k (.n l w r))) p
theorem eV {β : Type} : ∀ (p : Pos) (v : Option α) (t : T α) (k : T α → β), nL p v t k = k (nL p v t id)
  | .h, v, .e, k => rfl
  | .h, v, .n _ _ _, k => rfl
  | .o p, v, .e, k => by
    show nL p v .e (fun l => k (.n l none .e)) = k (nL p v .e fun l => .n l none .e)
    rw [eV p v .e, eV p v .e fun l => T.n l none .e]
  | .o p, v, .n l w r, k => by
    show nL p v l (fun l => k (.n l w r)) = k (nL p v l fun l => .n l w r)
    rw [eV p v l, eV p v l fun l => T.n l w r]
  | .i p, v, .e, k => by
    show nL p v .e (fun r => k (.n .e none r)) = k (nL p v .e fun r => .n .e none r)
    rw [eV p v .e, eV p v .e fun r => T.n .e none r]
  | .i p, v, .n l w r, k => by
    show nL p v r (fun r => k (.n l w r)) = k (nL p v r fun r => .n l w r)
    rw [eV p v r, eV p v r fun r => T.n l w r]
def putsK {β : Type} (us : List (Pos × Option α)) : T α → (T α → β) → β :=
  List.rec (fun t k => k t) (fun u _ ih t k => Prod.casesOn u fun p v => nL p v t fun t => ih t k) us
theorem putsK_eq {β : Type} : ∀ (us : List (Pos × Option α)) (t : T α) (k : T α → β), putsK us t k = k (putsK us t id)
  | [], t, k => rfl
  | (p, v) :: us, t, k => by
    show nL p v t (fun t => putsK us t k) = k (nL p v t fun t => putsK us t id)
    rw [eV p v t fun t => putsK us t k, eV p v t fun t => putsK us t id, putsK_eq us _ k]
end T
def X.up (ds us : List (Pos × Option D)) (os : List (Pos × Option C)) (nx : Pos) (x : X) : X := ⟨T.putsK us (T.putsK ds x.sl id) id, T.putsK os x.ob id, nx, none⟩
def X.upK (ds us : List (Pos × Option D)) (os : List (Pos × Option C)) (nx : Pos) (x : X) (k : X → Prop) : Prop := X.casesOn x fun sl ob _ _ => T.putsK ds sl fun sl => T.putsK us sl fun sl => T.putsK os ob fun ob => k ⟨sl, ob, nx, none⟩
theorem X.upK_eq (ds us : List (Pos × Option D)) (os : List (Pos × Option C)) (nx : Pos) (x : X) (k : X → Prop) : X.upK ds us os nx x k = k (X.up ds us os nx x) := by
  obtain ⟨sl, ob, nx0, lg⟩ := x
  show T.putsK ds sl (fun sl => T.putsK us sl fun sl => T.putsK os ob fun ob => k ⟨sl, ob, nx, none⟩) = k ⟨T.putsK us (T.putsK ds sl id) id, T.putsK os ob id, nx, none⟩
  rw [T.putsK_eq ds, T.putsK_eq us, T.putsK_eq os]
section
variable {P : Program} {nt : Nat} {σ : Type} {I : σ → Prop} {μ : σ → Nat} {s : σ} {z x : X} {ds : List (Pos × Option D)} {U : σ → List (Pos × Option D)} {O : σ → List (Pos × Option C)} {N : σ → Pos}
theorem Rn.loopU {a : RC} {K : Ex → X → Prop} (ds : List (Pos × Option D)) (U : σ → List (Pos × Option D)) (O : σ → List (Pos × Option C)) (N : σ → Pos) (I : σ → Prop) (μ : σ → Nat) (s0 : σ) (h0 : X.upK ds (U s0) (O s0) (N s0) x fun y => X.le y x) (i0 : I s0)
    (hb : ∀ s, I s → X.upK ds (U s) (O s) (N s) x fun y => Rn P nt a y (wK (fun s => X.up ds (U s) (O s) (N s) x) I μ s K)) : Rn P nt (.loop a) x K :=
  Rn.loopB (fun s => X.up ds (U s) (O s) (N s) x) I μ s0 (by have h := h0; rw [X.upK_eq] at h; exact h) i0 fun s hs => by have h := hb s hs; rw [X.upK_eq] at h; exact h
theorem AgainB.u (s' : σ) (h : μ s' < μ s) (i : I s') (n : (N s).nat ≤ (N s').nat) (l : X.upK ds (U s') (O s') (N s') x fun y => Shr z y) : AgainB (fun s => X.up ds (U s) (O s) (N s) x) I μ s z :=
  AgainB.sh s' h i n (by rw [X.upK_eq] at l; exact l)
theorem AgainB.uB (s' : σ) (B : Pos → Prop) (h : μ s' < μ s) (i : I s') (n : (N s).nat ≤ (N s').nat) (b1 : ∀ id : Pos, id.nat < (N s).nat → B id) (b2 : ∀ id : Pos, B id → id.nat < (N s').nat) (l : X.upK ds (U s') (O s') (N s') x fun y => ShrB B z y) : AgainB (fun s => X.up ds (U s) (O s) (N s) x) I μ s z :=
  AgainB.to s' B h i n b1 b2 (by rw [X.upK_eq] at l; exact l)
theorem Rn.loopV {a : RC} {K : Ex → X → Prop} (ds : List (Pos × Option D)) (U : σ → List (Pos × Option D)) (O : σ → List (Pos × Option C)) (N : σ → Pos) (I : σ → Prop) (μ : σ → Nat) (s0 : σ) (h0 : X.upK ds (U s0) (O s0) (N s0) x fun y => X.le y x) (i0 : I s0)
    (hb : ∀ x', x' = x → ∀ s, I s → X.upK ds (U s) (O s) (N s) x fun y => Rn P nt a y (wK (fun s => X.up ds (U s) (O s) (N s) x') I μ s K)) : Rn P nt (.loop a) x K :=
  Rn.loopU ds U O N I μ s0 h0 i0 (hb x rfl)
theorem AgainB.v {x' : X} (s' : σ) (h : μ s' < μ s) (i : I s') (n : (N s).nat ≤ (N s').nat) (hx : x' = x) (l : X.upK ds (U s') (O s') (N s') x fun y => Shr z y) : AgainB (fun s => X.up ds (U s) (O s) (N s) x') I μ s z := by
  subst hx
  exact AgainB.u s' h i n l
theorem AgainB.vB {x' : X} (s' : σ) (B : Pos → Prop) (h : μ s' < μ s) (i : I s') (n : (N s).nat ≤ (N s').nat) (b1 : ∀ id : Pos, id.nat < (N s).nat → B id) (b2 : ∀ id : Pos, B id → id.nat < (N s').nat) (hx : x' = x) (l : X.upK ds (U s') (O s') (N s') x fun y => ShrB B z y) : AgainB (fun s => X.up ds (U s) (O s) (N s) x') I μ s z := by
  subst hx
  exact AgainB.uB s' B h i n b1 b2 l
end
theorem Fz.ptr {B : Pos → Prop} {ob : T C} {id : Pos} {st : Nat} {cs : List Cell} {cur : Nat} {r : List D} (hB : ¬ B id) (h : ob.get id = some (.cells false cs cur)) (hc : cs = r.map fun d => Cell.o d st) (h0 : 0 < r.length) (hp : aN r) : Fz B ob (.pt id 0 st) (.pl r 0) := by
  subst hc
  refine .pt hB h h0 (fun k d hk => ⟨.o d st, ?_, ?_, rfl⟩) (FzL.of hp)
  · rw [List.drop_zero, List.getElem?_map, hk]; rfl
  · show Nat.ble st st = true
    exact Nat.ble_eq_true_of_le (Nat.le_refl _)
section
variable {P : Program} {nt : Nat}
structure WReg (P : Program) (l : List RG) (x : X) (K : X → Prop) : Prop where
  ok : ∃ Z, LRr P l x Z ∧ K Z
theorem WReg.at {l : List RG} {x : X} {K : X → Prop} (h : wL P K l x) : WReg P l x K := ⟨Ai h⟩
theorem WReg.cons {g : RG} {l : List RG} {x y : X} {K : X → Prop} (h : GR P g x y) (k : WReg P l y K) : WReg P (g :: l) x K :=
  let ⟨Z, h1, h2⟩ := k.ok
  ⟨Z, .cons h h1, h2⟩
theorem LRr.app {l m : List RG} {x y z : X} (h : LRr P l x y) (k : LRr P m y z) : LRr P (l ++ m) x z := by
  induction h with
  | nil => exact k
  | cons h1 _ ih => exact .cons h1 (ih k)
theorem GR.add {d : Pos} {a b : RX} {k : IntKind} {m n v : Int} {sl : T D} {ob : T C} {nx : Pos} {lg : Option (T Bool)} (ha : bE sl a = some (.i k m)) (hb : bE sl b = some (.i k n)) (hv : k.wrap (m + n) = v) : GR P (.u (.bin d .add a b)) ⟨sl, ob, nx, lg⟩ ⟨T.set d (.i k v) sl, ob, nx, lg⟩ := by
  refine .u (.st ?_)
  show iL d .add a b sl ob nx lg = _
  unfold iL
  rw [ha, hb]
  have hk : qQ k k = true := fM.2 rfl
  simp only [iS, hk, cond_true, dN, bD, sG, aW, T.setK_eq, hv]
theorem GR.sub {d : Pos} {a b : RX} {k : IntKind} {m n v : Int} {sl : T D} {ob : T C} {nx : Pos} {lg : Option (T Bool)} (ha : bE sl a = some (.i k m)) (hb : bE sl b = some (.i k n)) (hv : k.wrap (m - n) = v) : GR P (.u (.bin d .sub a b)) ⟨sl, ob, nx, lg⟩ ⟨T.set d (.i k v) sl, ob, nx, lg⟩ := by
  refine .u (.st ?_)
  show iL d .sub a b sl ob nx lg = _
  unfold iL
  rw [ha, hb]
  have hk : qQ k k = true := fM.2 rfl
  simp only [iS, hk, cond_true, dN, bD, mB, aW, T.setK_eq, hv]
end
theorem Fq {B : Pos → Prop} {ob : T C} {d e : D} (h : Fz B ob d e := by first | exact Fz.pu trivial | (refine Fz.i ?_; first | rfl | omega) | (refine Fz.kpt ?_; simp [Pos.nat, fO]; done) | (refine Fz.ksl ?_; simp [Pos.nat, fO]; done) | (refine Fz.kmp ?_; simp [Pos.nat, fO]; done)) : Fz B ob d e := h
theorem wI {n : Nat} {ob : T C} {id : Pos} {c c' : C} (k : ShC (fun id => id.nat < n) ob c c') (h : id.nat < n := by show Pos.nat _ < Pos.nat _; simp [Pos.nat, fO]; done) : RO' n ob id c c' := ⟨h, k⟩
theorem Sq {B : Pos → Prop} {ob : T C} {ro : Bool} {cs : List Cell} {cur : Nat} (h : ∀ c ∈ cs, Fz B ob c.d c.d := by (repeat' first | exact ShC.nl | refine ShC.cn ?_ ?_) <;> exact Fq) : ShC B ob (.cells ro cs cur) (.cells ro cs cur) := ShC.same h
section
variable {α : Type} {f : α → List D}
theorem ShC.na {B : Pos → Prop} {ob : T C} (hp : ∀ a, aN (f a)) (x : α) : ShC B ob (.cells false ((f x).map fun d => Cell.o d 0) 1) (.cells false ((aJ f [x]).flatten.map fun d => Cell.o d 0) 1) := by
  have e : (aJ f [x]).flatten = f x := by simp [aJ]
  rw [e]
  refine ShC.same fun c hc => ?_
  obtain ⟨d, hd, rfl⟩ := List.mem_map.1 hc
  exact .pu (aZ.1 (hp _) d hd)
theorem ShC.ca {B : Pos → Prop} {ob : T C} {m : Nat} (hp : ∀ a, aN (f a)) (A : List α) (x : α) : ShC B ob (.cells false (((aJ f A).flatten.map fun d => Cell.o d m) ++ (f x).map fun d => Cell.o d (m + 1)) (m + 1 + 1)) (.cells false (((aJ f A).flatten ++ f x).map fun d => Cell.o d (m + 1)) (m + 1 + 1)) := by
  refine ShC.grown (by omega) (aZ.2 fun d hd => ?_)
  rcases List.mem_append.1 hd with hd | hd
  · exact aZ.1 (fA hp _) d hd
  · exact aZ.1 (hp _) d hd
end
section
variable {P : Program}
theorem WReg.N (n : Nat) {l : List RG} {x : X} {K : X → Prop} (h : wL P (fun y => WReg P (l.drop n) y K) (l.take n) x) : WReg P l x K := by
  obtain ⟨Y, h1, h2⟩ := Ai h
  obtain ⟨Z, h3, h4⟩ := h2.ok
  exact ⟨Z, by have := LRr.app h1 h3; rwa [List.take_append_drop] at this, h4⟩
end
end Go.Ev
end
