import Derived.Test.YtkbgaadfednjpaaGreatDoorEvUUp
import Derived.Test.YtkbgaadfednjpaaGreatDoorEvUIt
set_option linter.all false
set_option maxHeartbeats 8000000
noncomputable section
namespace Go.Ev
open Go.Proofs
set_option maxRecDepth 100000
theorem dN {B : Pos → Prop} {ob : T C} {x y z : Int} : ShC B ob (.cells false [.o (.i .i64 x) 0, .o (.i .i64 y) 0, .o (.i .i64 z) 0] 1) (.cells false [.o (.i .i64 x) 0, .o (.i .i64 y) 0, .o (.i .i64 z) 0] 1) := by
  refine ShC.same ?_
  (repeat' first | exact ShC.nl | refine ShC.cn ?_ ?_) <;> exact .pu trivial
theorem xO {b : Bh} {r p : Nat} (hr : r < b.rws.toNat) (hp : p < b.pls.toNat) : cJ b ((r : Int), (p : Int)) = true := by
  unfold cJ gQ
  rw [Bool.and_eq_true]
  exact ⟨by first | exact decide_eq_true (by constructor <;> omega) | (simp only [Bool.and_eq_true, decide_eq_true_iff]; constructor <;> omega), by first | exact decide_eq_true (by constructor <;> omega) | (simp only [Bool.and_eq_true, decide_eq_true_iff]; constructor <;> omega)⟩
def HY (b : Bh) (L : List (List Int)) (t : List Int) (i : Nat) (A : List Hr) (j : Nat) : X := ⟨(.n (.n (.n (.n .e (some (.ns)) .e) (some (.pt .h 0 0)) .e) (some (.lst 1 (aC bY L))) (.n (.n .e (some (vX (.o (.o .h)) 3 A)) .e) none .e)) none (.n (.n (.n .e (some (.i .i64 (i : Int))) .e) none .e) (some (.lst 1 (ints t))) (.n (.n .e (some (.i .i64 (j : Int))) .e) none .e))), (.n (.n (.n .e (wU iB A) .e) none .e) (some (bZ b)) .e), fX (.o .h) (.i (.o .h)) A, none⟩
def IE (b : Bh) (L : List (List Int)) (t : List Int) (i : Nat) (a0 : List Hr) (s0 : List (List Hr)) (A : List Hr) (j : Nat) : X := ⟨(.n (.n (.n (.n .e (some (.sl (.o (.i .h)) 0 (s0.length + 1) s0.length 1)) .e) (some (.pt .h 0 0)) .e) (some (.lst 1 (aC bY L))) (.n (.n .e (some (vX (.i (.o (.o .h))) 3 A)) .e) none .e)) none (.n (.n (.n .e (some (.i .i64 (i : Int))) .e) none .e) (some (.lst 1 (ints t))) (.n (.n .e (some (.i .i64 (j : Int))) .e) none .e))), (.n (.n .e none (.n .e (some (.cells false ((aC aS (a0 :: s0)).flatten.map fun d => Cell.o d s0.length) (s0.length + 1))) .e)) (some (bZ b)) (.n (.n (.n .e (wU iB A) .e) none .e) none .e)), fX (.i (.i .h)) (.o (.i (.o .h))) A, none⟩
def Kk (b : Bh) (L : List (List Int)) (t : List Int) (i : Nat) (j : Nat) (x : Hr) (k : Nat) : X := ⟨(.n (.n (.n (.n .e (some (.ns)) .e) (some (.pt .h 0 0)) (.n .e (some (.pt (.o .h) 0 0)) .e)) (some (.lst 1 (aC bY L))) (.n (.n .e (some (.ns)) .e) none .e)) none (.n (.n (.n .e (some (.i .i64 (i : Int))) .e) none (.n .e (some (.i .i64 (k : Int))) .e)) (some (.lst 1 (ints t))) (.n (.n .e (some (.i .i64 (j : Int))) .e) none .e))), (.n (.n .e (some (.cells false [.o (.i .i64 x.sun) 0, .o (.i .i64 x.calm) 0, .o (.i .i64 x.good) 0] 1)) .e) (some (bZ b)) .e), (.i .h), none⟩
def Jo (b : Bh) (L : List (List Int)) (t : List Int) (i : Nat) (a : Hr) (s : List Hr) (j : Nat) (x : Hr) (k : Nat) : X := ⟨(.n (.n (.n (.n .e (some (.ns)) .e) (some (.pt .h 0 0)) (.n .e (some (.pt (.i (.o .h)) 0 0)) .e)) (some (.lst 1 (aC bY L))) (.n (.n .e (some (.sl (.o (.o .h)) 0 (s.length + 1) s.length 3)) .e) none .e)) none (.n (.n (.n .e (some (.i .i64 (i : Int))) .e) none (.n .e (some (.i .i64 (k : Int))) .e)) (some (.lst 1 (ints t))) (.n (.n .e (some (.i .i64 (j : Int))) .e) none .e))), (.n (.n (.n .e (some (.cells false ((aC iB (a :: s)).flatten.map fun d => Cell.o d s.length) (s.length + 1))) .e) none .e) (some (bZ b)) (.n (.n .e (some (.cells false [.o (.i .i64 x.sun) 0, .o (.i .i64 x.calm) 0, .o (.i .i64 x.good) 0] 1)) .e) none .e)), (.o (.i .h)), none⟩
def JC (b : Bh) (L : List (List Int)) (t : List Int) (i : Nat) (a0 : List Hr) (s0 : List (List Hr)) (j : Nat) (x : Hr) (k : Nat) : X := ⟨(.n (.n (.n (.n .e (some (.sl (.o (.i .h)) 0 (s0.length + 1) s0.length 1)) .e) (some (.pt .h 0 0)) (.n .e (some (.pt (.i (.i .h)) 0 0)) .e)) (some (.lst 1 (aC bY L))) (.n (.n .e (some (.ns)) .e) none .e)) none (.n (.n (.n .e (some (.i .i64 (i : Int))) .e) none (.n .e (some (.i .i64 (k : Int))) .e)) (some (.lst 1 (ints t))) (.n (.n .e (some (.i .i64 (j : Int))) .e) none .e))), (.n (.n .e none (.n .e (some (.cells false ((aC aS (a0 :: s0)).flatten.map fun d => Cell.o d s0.length) (s0.length + 1))) .e)) (some (bZ b)) (.n .e none (.n .e (some (.cells false [.o (.i .i64 x.sun) 0, .o (.i .i64 x.calm) 0, .o (.i .i64 x.good) 0] 1)) .e))), (.o (.o (.o .h))), none⟩
def KH (b : Bh) (L : List (List Int)) (t : List Int) (i : Nat) (a0 : List Hr) (s0 : List (List Hr)) (a : Hr) (s : List Hr) (j : Nat) (x : Hr) (k : Nat) : X := ⟨(.n (.n (.n (.n .e (some (.sl (.o (.i .h)) 0 (s0.length + 1) s0.length 1)) .e) (some (.pt .h 0 0)) (.n .e (some (.pt (.o (.i (.o .h))) 0 0)) .e)) (some (.lst 1 (aC bY L))) (.n (.n .e (some (.sl (.i (.o (.o .h))) 0 (s.length + 1) s.length 3)) .e) none .e)) none (.n (.n (.n .e (some (.i .i64 (i : Int))) .e) none (.n .e (some (.i .i64 (k : Int))) .e)) (some (.lst 1 (ints t))) (.n (.n .e (some (.i .i64 (j : Int))) .e) none .e))), (.n (.n .e none (.n (.n .e (some (.cells false [.o (.i .i64 x.sun) 0, .o (.i .i64 x.calm) 0, .o (.i .i64 x.good) 0] 1)) .e) (some (.cells false ((aC aS (a0 :: s0)).flatten.map fun d => Cell.o d s0.length) (s0.length + 1))) .e)) (some (bZ b)) (.n (.n (.n .e (some (.cells false ((aC iB (a :: s)).flatten.map fun d => Cell.o d s.length) (s.length + 1))) .e) none .e) none .e)), (.i (.i (.o .h))), none⟩
def HQ (b : Bh) (L : List (List Int)) (t : List Int) (A : List (List Hr)) (i : Nat) : X := ⟨(.n (.n (.n (.n .e (some (vX (.o (.i .h)) 1 A)) .e) (some (.pt .h 0 0)) .e) (some (.lst 1 (aC bY L))) .e) none (.n (.n (.n .e (some (.i .i64 (i : Int))) .e) none .e) (some (.lst 1 (ints t))) .e)), (.n (.n .e none (.n .e (wU aS A) .e)) (some (bZ b)) .e), fX (.o .h) (.i (.i .h)) A, none⟩
set_option maxHeartbeats 16000000 in
theorem GU (b : Bh) (V : VW b) (L : List (List Int)) (t : List Int) (hp : gS b L = true) (ht : t.length = hrs b) (hD : ∀ d ∈ t, 0 ≤ d ∧ d ≤ 3) (l4 : b.brk.length ≤ 1000) : PureF Tryz.prog p34.ix [.ag (dW b), .lst 1 (aC bY L), .lst 1 (ints t)] (.lst 1 (aC aS (oZ (IC b L t) b.rws.toNat b.pls.toNat))) := by
  have q1 := V.rws
  have q2 := V.pls
  have q3 := V.last
  have q4 := V.sunl
  have ht : t.length = (b.last + 1).toNat := ht
  have e1 := aH bY L
  have e2 := aN t
  have e3 := aN b.sun
  obtain ⟨p1, p2⟩ := nB.1 hp
  have hW : ∀ k, k < t.length → ((L.getD k default).length : Int) = b.rws ∧ ∀ i, i < (L.getD k default).length → 0 ≤ (L.getD k default).getD i 0 ∧ (L.getD k default).getD i 0 ≤ 3 := fun k hk => by
    have h := p2 _ (aM (d := default) (show k < L.length by omega))
    exact ⟨h.1, fun i hi => aX (hG (p := iC) h.2 hi)⟩
  generalize hH : IC b L t = H
  have hHe : ∀ i j : Nat, H i j = dJ b (bU L) ((i : Int), (j : Int)) t t.length := fun i j => by rw [← hH]; rfl
  refine PureF.run Pl (by simp) (by simp [aR, dL, Pu, aQ, aE, aB]) ?_; conv => whnf
  repeat' first | ((first | refine Qz ?_ | refine Qy ?_) <;> conv => whnf) | (refine WB.tt ?_; conv => whnf) | (refine WB.ff ?_; conv => whnf)
  refine Rn.loopB (fun i : Nat => HQ b L t (oZ H i b.pls.toNat) i) (fun i => i ≤ b.rws.toNat) (fun i => b.rws.toNat - i) 0 ?_ (Nat.zero_le _) ?_
  · refine X.le.mk ?_ ?_ (Nat.le_refl _) rfl rfl
    · show T.le ((.n (.n (.n (.n .e (some (.ns)) .e) (some (.pt .h 0 0)) .e) (some (.lst 1 (aC bY L))) .e) none (.n (.n (.n .e (some (.i .i64 0)) .e) none .e) (some (.lst 1 (ints t))) .e)) : Ev.T D) _
      (repeat' first | exact T.le_e _ | refine T.le_some ?_ rfl ?_ | refine T.le_none ?_ ?_ | refine T.le_ee ?_ ?_)
    · show T.le ((.n (.n .e none (.n .e none .e)) (some (bZ b)) .e) : Ev.T Ev.C) _
      (repeat' first | exact T.le_e _ | refine T.le_some ?_ rfl ?_ | refine T.le_none ?_ ?_ | refine T.le_ee ?_ ?_)
  intro i hi
  have hi : i ≤ b.rws.toNat := hi
  have osc := ES H i b.pls.toNat
  have olen := oI H i b.pls.toNat
  have oend : i = b.rws.toNat → oZ H i b.pls.toNat = oZ H b.rws.toNat b.pls.toNat := fun h => by rw [h]
  generalize hO : oZ H i b.pls.toNat = O at *
  cases O with
  | nil =>
    conv => whnf
    repeat' first | ((first | refine Qz ?_ | refine Qy ?_) <;> conv => whnf) | (refine WB.tt ?_; conv => whnf) | (refine WB.ff ?_; conv => whnf)
    refine WB.dec (fun hd => ?_) (fun hd => ?_) <;> conv => whnf
    · have hlt : i < b.rws.toNat := by omega
      repeat' first | ((first | refine Qz ?_ | refine Qy ?_) <;> conv => whnf) | (refine WB.tt ?_; conv => whnf) | (refine WB.ff ?_; conv => whnf)
      refine Rn.loop (fun j : Nat => HY b L t i ((List.range j).map (H i)) j) (fun j => j ≤ b.pls.toNat ∧ True) (fun j => b.pls.toNat - j) 0 ?_ ?_ ?_
      · refine X.le.mk ?_ ?_ (Nat.le_refl _) rfl rfl
        · show T.le ((.n (.n (.n (.n .e (some (.ns)) .e) (some (.pt .h 0 0)) .e) (some (.lst 1 (aC bY L))) (.n (.n .e (some (.ns)) .e) none .e)) none (.n (.n (.n .e (some (.i .i64 (i : Int))) .e) none .e) (some (.lst 1 (ints t))) (.n (.n .e (some (.i .i64 0)) .e) none .e))) : Ev.T D) _
          skip
          (repeat' first | exact T.le_e _ | refine T.le_some ?_ rfl ?_ | refine T.le_none ?_ ?_ | refine T.le_ee ?_ ?_)
        · show T.le ((.n (.n (.n .e none .e) none .e) (some (bZ b)) .e) : Ev.T Ev.C) _
          (repeat' first | exact T.le_e _ | refine T.le_some ?_ rfl ?_ | refine T.le_none ?_ ?_ | refine T.le_ee ?_ ?_)
      · exact ⟨Nat.zero_le _, trivial⟩
      rintro j ⟨hj, _⟩
      have hsc0 : (List.range (j + 1)).map (H i) = (List.range j).map (H i) ++ [H i j] := by rw [List.range_succ, List.map_append]; rfl
      have hAl : ((List.range j).map (H i)).length ≤ j := by simp
      have hne : 0 < j → (List.range j).map (H i) ≠ [] := fun h e => by have := congrArg List.length e; simp at this; omega
      have hHij := hHe i j
      generalize hA : (List.range j).map (H i) = A at *
      conv => whnf
      repeat' first | ((first | refine Qz ?_ | refine Qy ?_) <;> conv => whnf) | (refine WB.tt ?_; conv => whnf) | (refine WB.ff ?_; conv => whnf)
      refine WB.dec (fun hd2 => ?_) (fun hd2 => ?_) <;> conv => whnf
      · have hlt2 : j < b.pls.toNat := by omega
        have hsc := hsc0
        rw [hHij] at hsc
        cases A with
        | nil =>
          repeat' first | ((first | refine Qz ?_ | refine Qy ?_) <;> conv => whnf) | (refine WB.tt ?_; conv => whnf) | (refine WB.ff ?_; conv => whnf)
          refine Rn.loop (fun k : Nat => Kk b L t i j (dJ b (bU L) ((i : Int), (j : Int)) t k) k) (fun k => k ≤ t.length) (fun k => t.length - k) 0 ?_ (Nat.zero_le _) ?_
          · refine X.le.mk ?_ ?_ (Nat.le_refl _) rfl rfl
            · show T.le ((.n (.n (.n (.n .e (some (.ns)) .e) (some (.pt .h 0 0)) (.n .e (some (.pt (.o .h) 0 0)) .e)) (some (.lst 1 (aC bY L))) (.n (.n .e (some (.ns)) .e) none .e)) none (.n (.n (.n .e (some (.i .i64 (i : Int))) .e) none (.n .e (some (.i .i64 0)) .e)) (some (.lst 1 (ints t))) (.n (.n .e (some (.i .i64 (j : Int))) .e) none .e))) : Ev.T D) _
              (repeat' first | exact T.le_e _ | refine T.le_some ?_ rfl ?_ | refine T.le_none ?_ ?_ | refine T.le_ee ?_ ?_)
            · show T.le ((.n (.n .e (some (.cells false [.o (.i .i64 0) 0, .o (.i .i64 0) 0, .o (.i .i64 0) 0] 1)) .e) (some (bZ b)) .e) : Ev.T Ev.C) _
              (repeat' first | exact T.le_e _ | refine T.le_some ?_ rfl ?_ | refine T.le_none ?_ ?_ | refine T.le_ee ?_ ?_)
          intro k hk
          have hk : k ≤ t.length := hk
          have hbd := mJ b (bU L) ((i : Int), (j : Int)) t k
          have hN : dJ b (bU L) ((i : Int), (j : Int)) t (k + 1) = mN (dJ b (bU L) ((i : Int), (j : Int)) t k) (iS b ((i : Int), (j : Int)) ((L.getD k default).getD i 0) k (t.getD k 0)) := rfl
          generalize hX : dJ b (bU L) ((i : Int), (j : Int)) t k = x at *
          conv => whnf
          repeat' first | ((first | refine Qz ?_ | refine Qy ?_) <;> conv => whnf) | (refine WB.tt ?_; conv => whnf) | (refine WB.ff ?_; conv => whnf)
          refine WB.dec (fun hd3 => ?_) (fun hd3 => ?_) <;> conv => whnf
          · have hk2 : k < t.length := by omega
            have hw := hW k hk2
            have hdk := hD _ (aM (d := 0) hk2)
            have cS := gC b V ((i : Int), (j : Int)) (xO hlt hlt2) ((L.getD k default).getD i 0) (t.getD k 0) (hw.2 i (by omega)) hdk l4
            by_cases k1 : (L.getD k default).getD i 0 = b.sun.getD k 0
            · cases k2 : tB b ((i : Int), (j : Int)) ((L.getD k default).getD i 0) (t.getD k 0) with
              | true =>
                rw [k2] at cS
                have hN2 : dJ b (bU L) ((i : Int), (j : Int)) t (k + 1) = ⟨x.sun + 1, x.calm + 1, x.good + 1⟩ := by
                  rw [hN]; unfold mN iS
                  rw [decide_eq_true k1, k2]
                  simp [oU]
                repeat' first | ((first | refine Qz ?_ | refine Qf (cS) ?_ | with_reducible (first | refine Qm ?_ | refine Qn ?_ | refine Qo ?_ | refine Qp ?_ | refine WB.nt ?_ | refine WB.nf ?_ | refine WB.dec (fun h => ?_) (fun h => ?_) | refine WB.ndec (fun h => ?_) (fun h => ?_)) | refine WB.mk (fun h => ?_) (fun h => ?_)) <;> conv => whnf) | (refine WB.tt ?_; conv => whnf) | (refine WB.ff ?_; conv => whnf)
                refine Again.to (k + 1) (by omega) (show k + 1 ≤ t.length by omega) (Nat.le_refl _) ?_
                show Shr _ (Kk b L t i j (dJ b (bU L) ((i : Int), (j : Int)) t (k + 1)) (k + 1))
                rw [hN2]
                refine Shr.of ?_ ?_ rfl rfl
                · show Rel _ _ ((.n (.n (.n (.n .e (some (.ns)) .e) (some (.pt .h 0 0)) (.n .e (some (.pt (.o .h) 0 0)) .e)) (some (.lst 1 (aC bY L))) (.n (.n .e (some (.ns)) .e) none .e)) none (.n (.n (.n .e (some (.i .i64 (i : Int))) .e) none (.n .e (some (.i .i64 ((k + 1 : Nat) : Int))) .e)) (some (.lst 1 (ints t))) (.n (.n .e (some (.i .i64 (j : Int))) .e) none .e))) : T D) _
                  (repeat' first | exact Rel.e | refine Rel.some ?_ ?_ ?_ | refine Rel.none ?_ ?_ | refine Rel.ee ?_ ?_)
                  all_goals show Fz _ _ _ _
                  all_goals first | exact .pu trivial | exact .kpt (show _ < 3 by simp [Pos.nat]) | exact .ksl (show _ < 3 by simp [Pos.nat]) | exact .pu (aE _) | exact .pu (aB _)
                · show Rel _ _ ((.n (.n .e (some (.cells false [.o (.i .i64 (x.sun + 1)) 0, .o (.i .i64 (x.calm + 1)) 0, .o (.i .i64 (x.good + 1)) 0] 1)) .e) (some (bZ b)) .e) : T C) _
                  (repeat' first | exact Rel.e | refine Rel.some ?_ ?_ ?_ | refine Rel.none ?_ ?_ | refine Rel.ee ?_ ?_)
                  all_goals first
                    | exact RO'.of (show _ < 3 by simp [Pos.nat]) (aL b)
                    | exact RO'.of (show _ < 3 by simp [Pos.nat]) dN
              | false =>
                rw [k2] at cS
                have hN2 : dJ b (bU L) ((i : Int), (j : Int)) t (k + 1) = ⟨x.sun + 1, x.calm, x.good⟩ := by
                  rw [hN]; unfold mN iS
                  rw [decide_eq_true k1, k2]
                  simp [oU]
                repeat' first | ((first | refine Qz ?_ | refine Qf (cS) ?_ | with_reducible (first | refine Qm ?_ | refine Qn ?_ | refine Qo ?_ | refine Qp ?_ | refine WB.nt ?_ | refine WB.nf ?_ | refine WB.dec (fun h => ?_) (fun h => ?_) | refine WB.ndec (fun h => ?_) (fun h => ?_)) | refine WB.mk (fun h => ?_) (fun h => ?_)) <;> conv => whnf) | (refine WB.tt ?_; conv => whnf) | (refine WB.ff ?_; conv => whnf)
                refine Again.to (k + 1) (by omega) (show k + 1 ≤ t.length by omega) (Nat.le_refl _) ?_
                show Shr _ (Kk b L t i j (dJ b (bU L) ((i : Int), (j : Int)) t (k + 1)) (k + 1))
                rw [hN2]
                refine Shr.of ?_ ?_ rfl rfl
                · show Rel _ _ ((.n (.n (.n (.n .e (some (.ns)) .e) (some (.pt .h 0 0)) (.n .e (some (.pt (.o .h) 0 0)) .e)) (some (.lst 1 (aC bY L))) (.n (.n .e (some (.ns)) .e) none .e)) none (.n (.n (.n .e (some (.i .i64 (i : Int))) .e) none (.n .e (some (.i .i64 ((k + 1 : Nat) : Int))) .e)) (some (.lst 1 (ints t))) (.n (.n .e (some (.i .i64 (j : Int))) .e) none .e))) : T D) _
                  (repeat' first | exact Rel.e | refine Rel.some ?_ ?_ ?_ | refine Rel.none ?_ ?_ | refine Rel.ee ?_ ?_)
                  all_goals show Fz _ _ _ _
                  all_goals first | exact .pu trivial | exact .kpt (show _ < 3 by simp [Pos.nat]) | exact .ksl (show _ < 3 by simp [Pos.nat]) | exact .pu (aE _) | exact .pu (aB _)
                · show Rel _ _ ((.n (.n .e (some (.cells false [.o (.i .i64 (x.sun + 1)) 0, .o (.i .i64 x.calm) 0, .o (.i .i64 x.good) 0] 1)) .e) (some (bZ b)) .e) : T C) _
                  (repeat' first | exact Rel.e | refine Rel.some ?_ ?_ ?_ | refine Rel.none ?_ ?_ | refine Rel.ee ?_ ?_)
                  all_goals first
                    | exact RO'.of (show _ < 3 by simp [Pos.nat]) (aL b)
                    | exact RO'.of (show _ < 3 by simp [Pos.nat]) dN
            · cases k2 : tB b ((i : Int), (j : Int)) ((L.getD k default).getD i 0) (t.getD k 0) with
              | true =>
                rw [k2] at cS
                have hN2 : dJ b (bU L) ((i : Int), (j : Int)) t (k + 1) = ⟨x.sun, x.calm + 1, x.good⟩ := by
                  rw [hN]; unfold mN iS
                  rw [decide_eq_false k1, k2]
                  simp [oU]
                repeat' first | ((first | refine Qz ?_ | refine Qf (cS) ?_ | with_reducible (first | refine Qm ?_ | refine Qn ?_ | refine Qo ?_ | refine Qp ?_ | refine WB.nt ?_ | refine WB.nf ?_ | refine WB.dec (fun h => ?_) (fun h => ?_) | refine WB.ndec (fun h => ?_) (fun h => ?_)) | refine WB.mk (fun h => ?_) (fun h => ?_)) <;> conv => whnf) | (refine WB.tt ?_; conv => whnf) | (refine WB.ff ?_; conv => whnf)
                refine Again.to (k + 1) (by omega) (show k + 1 ≤ t.length by omega) (Nat.le_refl _) ?_
                show Shr _ (Kk b L t i j (dJ b (bU L) ((i : Int), (j : Int)) t (k + 1)) (k + 1))
                rw [hN2]
                refine Shr.of ?_ ?_ rfl rfl
                · show Rel _ _ ((.n (.n (.n (.n .e (some (.ns)) .e) (some (.pt .h 0 0)) (.n .e (some (.pt (.o .h) 0 0)) .e)) (some (.lst 1 (aC bY L))) (.n (.n .e (some (.ns)) .e) none .e)) none (.n (.n (.n .e (some (.i .i64 (i : Int))) .e) none (.n .e (some (.i .i64 ((k + 1 : Nat) : Int))) .e)) (some (.lst 1 (ints t))) (.n (.n .e (some (.i .i64 (j : Int))) .e) none .e))) : T D) _
                  (repeat' first | exact Rel.e | refine Rel.some ?_ ?_ ?_ | refine Rel.none ?_ ?_ | refine Rel.ee ?_ ?_)
                  all_goals show Fz _ _ _ _
                  all_goals first | exact .pu trivial | exact .kpt (show _ < 3 by simp [Pos.nat]) | exact .ksl (show _ < 3 by simp [Pos.nat]) | exact .pu (aE _) | exact .pu (aB _)
                · show Rel _ _ ((.n (.n .e (some (.cells false [.o (.i .i64 x.sun) 0, .o (.i .i64 (x.calm + 1)) 0, .o (.i .i64 x.good) 0] 1)) .e) (some (bZ b)) .e) : T C) _
                  (repeat' first | exact Rel.e | refine Rel.some ?_ ?_ ?_ | refine Rel.none ?_ ?_ | refine Rel.ee ?_ ?_)
                  all_goals first
                    | exact RO'.of (show _ < 3 by simp [Pos.nat]) (aL b)
                    | exact RO'.of (show _ < 3 by simp [Pos.nat]) dN
              | false =>
                rw [k2] at cS
                have hN2 : dJ b (bU L) ((i : Int), (j : Int)) t (k + 1) = ⟨x.sun, x.calm, x.good⟩ := by
                  rw [hN]; unfold mN iS
                  rw [decide_eq_false k1, k2]
                  simp [oU]
                repeat' first | ((first | refine Qz ?_ | refine Qf (cS) ?_ | with_reducible (first | refine Qm ?_ | refine Qn ?_ | refine Qo ?_ | refine Qp ?_ | refine WB.nt ?_ | refine WB.nf ?_ | refine WB.dec (fun h => ?_) (fun h => ?_) | refine WB.ndec (fun h => ?_) (fun h => ?_)) | refine WB.mk (fun h => ?_) (fun h => ?_)) <;> conv => whnf) | (refine WB.tt ?_; conv => whnf) | (refine WB.ff ?_; conv => whnf)
                refine Again.to (k + 1) (by omega) (show k + 1 ≤ t.length by omega) (Nat.le_refl _) ?_
                show Shr _ (Kk b L t i j (dJ b (bU L) ((i : Int), (j : Int)) t (k + 1)) (k + 1))
                rw [hN2]
                refine Shr.of ?_ ?_ rfl rfl
                · show Rel _ _ ((.n (.n (.n (.n .e (some (.ns)) .e) (some (.pt .h 0 0)) (.n .e (some (.pt (.o .h) 0 0)) .e)) (some (.lst 1 (aC bY L))) (.n (.n .e (some (.ns)) .e) none .e)) none (.n (.n (.n .e (some (.i .i64 (i : Int))) .e) none (.n .e (some (.i .i64 ((k + 1 : Nat) : Int))) .e)) (some (.lst 1 (ints t))) (.n (.n .e (some (.i .i64 (j : Int))) .e) none .e))) : T D) _
                  (repeat' first | exact Rel.e | refine Rel.some ?_ ?_ ?_ | refine Rel.none ?_ ?_ | refine Rel.ee ?_ ?_)
                  all_goals show Fz _ _ _ _
                  all_goals first | exact .pu trivial | exact .kpt (show _ < 3 by simp [Pos.nat]) | exact .ksl (show _ < 3 by simp [Pos.nat]) | exact .pu (aE _) | exact .pu (aB _)
                · show Rel _ _ ((.n (.n .e (some (.cells false [.o (.i .i64 x.sun) 0, .o (.i .i64 x.calm) 0, .o (.i .i64 x.good) 0] 1)) .e) (some (bZ b)) .e) : T C) _
                  (repeat' first | exact Rel.e | refine Rel.some ?_ ?_ ?_ | refine Rel.none ?_ ?_ | refine Rel.ee ?_ ?_)
                  all_goals first
                    | exact RO'.of (show _ < 3 by simp [Pos.nat]) (aL b)
                    | exact RO'.of (show _ < 3 by simp [Pos.nat]) dN
          obtain rfl : k = t.length := by omega
          subst hX
          repeat' first | ((first | refine Qz ?_ | refine Qy ?_) <;> conv => whnf) | (refine WB.tt ?_; conv => whnf) | (refine WB.ff ?_; conv => whnf)
          refine WSt.app_first (r := iB (dJ b (bU L) ((i : Int), (j : Int)) t t.length)) (by rfl) (.inl rfl) (by rfl) (by rfl) (by rfl) (by rfl) ?_; conv => whnf
          repeat' first | ((first | refine Qz ?_ | refine Qy ?_) <;> conv => whnf) | (refine WB.tt ?_; conv => whnf) | (refine WB.ff ?_; conv => whnf)
          refine Again.to (j + 1) (by omega) ⟨by omega, trivial⟩ (by show (fX (.o .h) (.i (.o .h)) ((List.range j).map (H i))).nat ≤ (fX (.o .h) (.i (.o .h)) ((List.range (j + 1)).map (H i))).nat; rw [hA, hsc]; exact (show 2 ≤ 5 by omega)) ?_
          show Shr _ (HY b L t i ((List.range (j + 1)).map (H i)) (j + 1))
          rw [hsc]
          refine Shr.of ?_ ?_ rfl rfl
          · show Rel _ _ ((.n (.n (.n (.n .e (some (.ns)) .e) (some (.pt .h 0 0)) .e) (some (.lst 1 (aC bY L))) (.n (.n .e (some ((.sl (.o (.o .h)) 0 1 0 3))) .e) none .e)) none (.n (.n (.n .e (some (.i .i64 (i : Int))) .e) none .e) (some (.lst 1 (ints t))) (.n (.n .e (some (.i .i64 ((j + 1 : Nat) : Int))) .e) none .e))) : Ev.T D) _
            skip
            (repeat' first | exact Rel.e | refine Rel.some ?_ ?_ ?_ | refine Rel.none ?_ ?_ | refine Rel.ee ?_ ?_)
            all_goals show Fz _ _ _ _
            all_goals first | exact .pu trivial | exact .kpt (show _ < 5 by simp [Pos.nat]) | exact .ksl (show _ < 5 by simp [Pos.nat]) | exact .kmp (show _ < 5 by simp [Pos.nat]) | exact .pu (aE _) | exact .pu (aB _)
          · show Rel _ _ ((.n (.n (.n .e (some (.cells false ((iB (dJ b (bU L) ((i : Int), (j : Int)) t t.length)).map fun d => Cell.o d 0) 1)) .e) none .e) (some (bZ b)) .e) : Ev.T Ev.C) _
            skip
            (repeat' first | exact Rel.e | refine Rel.some ?_ ?_ ?_ | refine Rel.none ?_ ?_ | refine Rel.ee ?_ ?_)
            all_goals first
              | exact RO'.of (show _ < 5 by simp [Pos.nat]) (aL b)
              | (refine RO'.of (show _ < 5 by simp [Pos.nat]) (ShC.same fun c hc => ?_); obtain ⟨d, hd, rfl⟩ := List.mem_map.1 hc; exact .pu (aT.1 (kB _) d hd))
        | cons a s =>
          have hs5 : s.length + 1 ≤ 1000 := Nat.le_trans hAl (by omega)
          repeat' first | ((first | refine Qz ?_ | refine Qy ?_) <;> conv => whnf) | (refine WB.tt ?_; conv => whnf) | (refine WB.ff ?_; conv => whnf)
          refine Rn.loop (fun k : Nat => Jo b L t i a s j (dJ b (bU L) ((i : Int), (j : Int)) t k) k) (fun k => k ≤ t.length) (fun k => t.length - k) 0 ?_ (Nat.zero_le _) ?_
          · refine X.le.mk ?_ ?_ (Nat.le_refl _) rfl rfl
            · show T.le ((.n (.n (.n (.n .e (some (.ns)) .e) (some (.pt .h 0 0)) (.n .e (some (.pt (.i (.o .h)) 0 0)) .e)) (some (.lst 1 (aC bY L))) (.n (.n .e (some (.sl (.o (.o .h)) 0 (s.length + 1) s.length 3)) .e) none .e)) none (.n (.n (.n .e (some (.i .i64 (i : Int))) .e) none (.n .e (some (.i .i64 0)) .e)) (some (.lst 1 (ints t))) (.n (.n .e (some (.i .i64 (j : Int))) .e) none .e))) : Ev.T D) _
              (repeat' first | exact T.le_e _ | refine T.le_some ?_ rfl ?_ | refine T.le_none ?_ ?_ | refine T.le_ee ?_ ?_)
            · show T.le ((.n (.n (.n .e (some (.cells false ((aC iB (a :: s)).flatten.map fun d => Cell.o d s.length) (s.length + 1))) .e) none .e) (some (bZ b)) (.n (.n .e (some (.cells false [.o (.i .i64 0) 0, .o (.i .i64 0) 0, .o (.i .i64 0) 0] 1)) .e) none .e)) : Ev.T Ev.C) _
              (repeat' first | exact T.le_e _ | refine T.le_some ?_ rfl ?_ | refine T.le_none ?_ ?_ | refine T.le_ee ?_ ?_)
          intro k hk
          have hk : k ≤ t.length := hk
          have hbd := mJ b (bU L) ((i : Int), (j : Int)) t k
          have hN : dJ b (bU L) ((i : Int), (j : Int)) t (k + 1) = mN (dJ b (bU L) ((i : Int), (j : Int)) t k) (iS b ((i : Int), (j : Int)) ((L.getD k default).getD i 0) k (t.getD k 0)) := rfl
          generalize hX : dJ b (bU L) ((i : Int), (j : Int)) t k = x at *
          conv => whnf
          repeat' first | ((first | refine Qz ?_ | refine Qy ?_) <;> conv => whnf) | (refine WB.tt ?_; conv => whnf) | (refine WB.ff ?_; conv => whnf)
          refine WB.dec (fun hd3 => ?_) (fun hd3 => ?_) <;> conv => whnf
          · have hk2 : k < t.length := by omega
            have hw := hW k hk2
            have hdk := hD _ (aM (d := 0) hk2)
            have cS := gC b V ((i : Int), (j : Int)) (xO hlt hlt2) ((L.getD k default).getD i 0) (t.getD k 0) (hw.2 i (by omega)) hdk l4
            by_cases k1 : (L.getD k default).getD i 0 = b.sun.getD k 0
            · cases k2 : tB b ((i : Int), (j : Int)) ((L.getD k default).getD i 0) (t.getD k 0) with
              | true =>
                rw [k2] at cS
                have hN2 : dJ b (bU L) ((i : Int), (j : Int)) t (k + 1) = ⟨x.sun + 1, x.calm + 1, x.good + 1⟩ := by
                  rw [hN]; unfold mN iS
                  rw [decide_eq_true k1, k2]
                  simp [oU]
                repeat' first | ((first | refine Qz ?_ | refine Qf (cS) ?_ | with_reducible (first | refine Qm ?_ | refine Qn ?_ | refine Qo ?_ | refine Qp ?_ | refine WB.nt ?_ | refine WB.nf ?_ | refine WB.dec (fun h => ?_) (fun h => ?_) | refine WB.ndec (fun h => ?_) (fun h => ?_)) | refine WB.mk (fun h => ?_) (fun h => ?_)) <;> conv => whnf) | (refine WB.tt ?_; conv => whnf) | (refine WB.ff ?_; conv => whnf)
                refine Again.to (k + 1) (by omega) (show k + 1 ≤ t.length by omega) (Nat.le_refl _) ?_
                show Shr _ (Jo b L t i a s j (dJ b (bU L) ((i : Int), (j : Int)) t (k + 1)) (k + 1))
                rw [hN2]
                refine Shr.of ?_ ?_ rfl rfl
                · show Rel _ _ ((.n (.n (.n (.n .e (some (.ns)) .e) (some (.pt .h 0 0)) (.n .e (some (.pt (.i (.o .h)) 0 0)) .e)) (some (.lst 1 (aC bY L))) (.n (.n .e (some (.sl (.o (.o .h)) 0 (s.length + 1) s.length 3)) .e) none .e)) none (.n (.n (.n .e (some (.i .i64 (i : Int))) .e) none (.n .e (some (.i .i64 ((k + 1 : Nat) : Int))) .e)) (some (.lst 1 (ints t))) (.n (.n .e (some (.i .i64 (j : Int))) .e) none .e))) : T D) _
                  (repeat' first | exact Rel.e | refine Rel.some ?_ ?_ ?_ | refine Rel.none ?_ ?_ | refine Rel.ee ?_ ?_)
                  all_goals show Fz _ _ _ _
                  all_goals first | exact .pu trivial | exact .kpt (show _ < 6 by simp [Pos.nat]) | exact .ksl (show _ < 6 by simp [Pos.nat]) | exact .pu (aE _) | exact .pu (aB _)
                · show Rel _ _ ((.n (.n (.n .e (some (.cells false ((aC iB (a :: s)).flatten.map fun d => Cell.o d s.length) (s.length + 1))) .e) none .e) (some (bZ b)) (.n (.n .e (some (.cells false [.o (.i .i64 (x.sun + 1)) 0, .o (.i .i64 (x.calm + 1)) 0, .o (.i .i64 (x.good + 1)) 0] 1)) .e) none .e)) : T C) _
                  (repeat' first | exact Rel.e | refine Rel.some ?_ ?_ ?_ | refine Rel.none ?_ ?_ | refine Rel.ee ?_ ?_)
                  all_goals first
                    | exact RO'.of (show _ < 6 by simp [Pos.nat]) (aL b)
                    | exact RO'.of (show _ < 6 by simp [Pos.nat]) dN
                    | exact RO'.of (show _ < 6 by simp [Pos.nat]) (ShC.G kB a s)
              | false =>
                rw [k2] at cS
                have hN2 : dJ b (bU L) ((i : Int), (j : Int)) t (k + 1) = ⟨x.sun + 1, x.calm, x.good⟩ := by
                  rw [hN]; unfold mN iS
                  rw [decide_eq_true k1, k2]
                  simp [oU]
                repeat' first | ((first | refine Qz ?_ | refine Qf (cS) ?_ | with_reducible (first | refine Qm ?_ | refine Qn ?_ | refine Qo ?_ | refine Qp ?_ | refine WB.nt ?_ | refine WB.nf ?_ | refine WB.dec (fun h => ?_) (fun h => ?_) | refine WB.ndec (fun h => ?_) (fun h => ?_)) | refine WB.mk (fun h => ?_) (fun h => ?_)) <;> conv => whnf) | (refine WB.tt ?_; conv => whnf) | (refine WB.ff ?_; conv => whnf)
                refine Again.to (k + 1) (by omega) (show k + 1 ≤ t.length by omega) (Nat.le_refl _) ?_
                show Shr _ (Jo b L t i a s j (dJ b (bU L) ((i : Int), (j : Int)) t (k + 1)) (k + 1))
                rw [hN2]
                refine Shr.of ?_ ?_ rfl rfl
                · show Rel _ _ ((.n (.n (.n (.n .e (some (.ns)) .e) (some (.pt .h 0 0)) (.n .e (some (.pt (.i (.o .h)) 0 0)) .e)) (some (.lst 1 (aC bY L))) (.n (.n .e (some (.sl (.o (.o .h)) 0 (s.length + 1) s.length 3)) .e) none .e)) none (.n (.n (.n .e (some (.i .i64 (i : Int))) .e) none (.n .e (some (.i .i64 ((k + 1 : Nat) : Int))) .e)) (some (.lst 1 (ints t))) (.n (.n .e (some (.i .i64 (j : Int))) .e) none .e))) : T D) _
                  (repeat' first | exact Rel.e | refine Rel.some ?_ ?_ ?_ | refine Rel.none ?_ ?_ | refine Rel.ee ?_ ?_)
                  all_goals show Fz _ _ _ _
                  all_goals first | exact .pu trivial | exact .kpt (show _ < 6 by simp [Pos.nat]) | exact .ksl (show _ < 6 by simp [Pos.nat]) | exact .pu (aE _) | exact .pu (aB _)
                · show Rel _ _ ((.n (.n (.n .e (some (.cells false ((aC iB (a :: s)).flatten.map fun d => Cell.o d s.length) (s.length + 1))) .e) none .e) (some (bZ b)) (.n (.n .e (some (.cells false [.o (.i .i64 (x.sun + 1)) 0, .o (.i .i64 x.calm) 0, .o (.i .i64 x.good) 0] 1)) .e) none .e)) : T C) _
                  (repeat' first | exact Rel.e | refine Rel.some ?_ ?_ ?_ | refine Rel.none ?_ ?_ | refine Rel.ee ?_ ?_)
                  all_goals first
                    | exact RO'.of (show _ < 6 by simp [Pos.nat]) (aL b)
                    | exact RO'.of (show _ < 6 by simp [Pos.nat]) dN
                    | exact RO'.of (show _ < 6 by simp [Pos.nat]) (ShC.G kB a s)
            · cases k2 : tB b ((i : Int), (j : Int)) ((L.getD k default).getD i 0) (t.getD k 0) with
              | true =>
                rw [k2] at cS
                have hN2 : dJ b (bU L) ((i : Int), (j : Int)) t (k + 1) = ⟨x.sun, x.calm + 1, x.good⟩ := by
                  rw [hN]; unfold mN iS
                  rw [decide_eq_false k1, k2]
                  simp [oU]
                repeat' first | ((first | refine Qz ?_ | refine Qf (cS) ?_ | with_reducible (first | refine Qm ?_ | refine Qn ?_ | refine Qo ?_ | refine Qp ?_ | refine WB.nt ?_ | refine WB.nf ?_ | refine WB.dec (fun h => ?_) (fun h => ?_) | refine WB.ndec (fun h => ?_) (fun h => ?_)) | refine WB.mk (fun h => ?_) (fun h => ?_)) <;> conv => whnf) | (refine WB.tt ?_; conv => whnf) | (refine WB.ff ?_; conv => whnf)
                refine Again.to (k + 1) (by omega) (show k + 1 ≤ t.length by omega) (Nat.le_refl _) ?_
                show Shr _ (Jo b L t i a s j (dJ b (bU L) ((i : Int), (j : Int)) t (k + 1)) (k + 1))
                rw [hN2]
                refine Shr.of ?_ ?_ rfl rfl
                · show Rel _ _ ((.n (.n (.n (.n .e (some (.ns)) .e) (some (.pt .h 0 0)) (.n .e (some (.pt (.i (.o .h)) 0 0)) .e)) (some (.lst 1 (aC bY L))) (.n (.n .e (some (.sl (.o (.o .h)) 0 (s.length + 1) s.length 3)) .e) none .e)) none (.n (.n (.n .e (some (.i .i64 (i : Int))) .e) none (.n .e (some (.i .i64 ((k + 1 : Nat) : Int))) .e)) (some (.lst 1 (ints t))) (.n (.n .e (some (.i .i64 (j : Int))) .e) none .e))) : T D) _
                  (repeat' first | exact Rel.e | refine Rel.some ?_ ?_ ?_ | refine Rel.none ?_ ?_ | refine Rel.ee ?_ ?_)
                  all_goals show Fz _ _ _ _
                  all_goals first | exact .pu trivial | exact .kpt (show _ < 6 by simp [Pos.nat]) | exact .ksl (show _ < 6 by simp [Pos.nat]) | exact .pu (aE _) | exact .pu (aB _)
                · show Rel _ _ ((.n (.n (.n .e (some (.cells false ((aC iB (a :: s)).flatten.map fun d => Cell.o d s.length) (s.length + 1))) .e) none .e) (some (bZ b)) (.n (.n .e (some (.cells false [.o (.i .i64 x.sun) 0, .o (.i .i64 (x.calm + 1)) 0, .o (.i .i64 x.good) 0] 1)) .e) none .e)) : T C) _
                  (repeat' first | exact Rel.e | refine Rel.some ?_ ?_ ?_ | refine Rel.none ?_ ?_ | refine Rel.ee ?_ ?_)
                  all_goals first
                    | exact RO'.of (show _ < 6 by simp [Pos.nat]) (aL b)
                    | exact RO'.of (show _ < 6 by simp [Pos.nat]) dN
                    | exact RO'.of (show _ < 6 by simp [Pos.nat]) (ShC.G kB a s)
              | false =>
                rw [k2] at cS
                have hN2 : dJ b (bU L) ((i : Int), (j : Int)) t (k + 1) = ⟨x.sun, x.calm, x.good⟩ := by
                  rw [hN]; unfold mN iS
                  rw [decide_eq_false k1, k2]
                  simp [oU]
                repeat' first | ((first | refine Qz ?_ | refine Qf (cS) ?_ | with_reducible (first | refine Qm ?_ | refine Qn ?_ | refine Qo ?_ | refine Qp ?_ | refine WB.nt ?_ | refine WB.nf ?_ | refine WB.dec (fun h => ?_) (fun h => ?_) | refine WB.ndec (fun h => ?_) (fun h => ?_)) | refine WB.mk (fun h => ?_) (fun h => ?_)) <;> conv => whnf) | (refine WB.tt ?_; conv => whnf) | (refine WB.ff ?_; conv => whnf)
                refine Again.to (k + 1) (by omega) (show k + 1 ≤ t.length by omega) (Nat.le_refl _) ?_
                show Shr _ (Jo b L t i a s j (dJ b (bU L) ((i : Int), (j : Int)) t (k + 1)) (k + 1))
                rw [hN2]
                refine Shr.of ?_ ?_ rfl rfl
                · show Rel _ _ ((.n (.n (.n (.n .e (some (.ns)) .e) (some (.pt .h 0 0)) (.n .e (some (.pt (.i (.o .h)) 0 0)) .e)) (some (.lst 1 (aC bY L))) (.n (.n .e (some (.sl (.o (.o .h)) 0 (s.length + 1) s.length 3)) .e) none .e)) none (.n (.n (.n .e (some (.i .i64 (i : Int))) .e) none (.n .e (some (.i .i64 ((k + 1 : Nat) : Int))) .e)) (some (.lst 1 (ints t))) (.n (.n .e (some (.i .i64 (j : Int))) .e) none .e))) : T D) _
                  (repeat' first | exact Rel.e | refine Rel.some ?_ ?_ ?_ | refine Rel.none ?_ ?_ | refine Rel.ee ?_ ?_)
                  all_goals show Fz _ _ _ _
                  all_goals first | exact .pu trivial | exact .kpt (show _ < 6 by simp [Pos.nat]) | exact .ksl (show _ < 6 by simp [Pos.nat]) | exact .pu (aE _) | exact .pu (aB _)
                · show Rel _ _ ((.n (.n (.n .e (some (.cells false ((aC iB (a :: s)).flatten.map fun d => Cell.o d s.length) (s.length + 1))) .e) none .e) (some (bZ b)) (.n (.n .e (some (.cells false [.o (.i .i64 x.sun) 0, .o (.i .i64 x.calm) 0, .o (.i .i64 x.good) 0] 1)) .e) none .e)) : T C) _
                  (repeat' first | exact Rel.e | refine Rel.some ?_ ?_ ?_ | refine Rel.none ?_ ?_ | refine Rel.ee ?_ ?_)
                  all_goals first
                    | exact RO'.of (show _ < 6 by simp [Pos.nat]) (aL b)
                    | exact RO'.of (show _ < 6 by simp [Pos.nat]) dN
                    | exact RO'.of (show _ < 6 by simp [Pos.nat]) (ShC.G kB a s)
          obtain rfl : k = t.length := by omega
          subst hX
          repeat' first | ((first | refine Qz ?_ | refine Qy ?_) <;> conv => whnf) | (refine WB.tt ?_; conv => whnf) | (refine WB.ff ?_; conv => whnf)
          refine WSt.app_one (id := (.o (.o .h))) (ds := (aC iB (a :: s)).flatten) (r := iB (dJ b (bU L) ((i : Int), (j : Int)) t t.length)) (by rfl) (by rfl) (by rfl) (by rfl) (by rfl) (by rfl) (by rw [dT (z := 3) GQ]; rfl) (by rfl) (by rfl) (by omega) (by rfl) ?_; conv => whnf
          repeat' first | ((first | refine Qz ?_ | refine Qy ?_) <;> conv => whnf) | (refine WB.tt ?_; conv => whnf) | (refine WB.ff ?_; conv => whnf)
          refine Again.to (j + 1) (by omega) ⟨by omega, trivial⟩ (by show (fX (.o .h) (.i (.o .h)) ((List.range j).map (H i))).nat ≤ (fX (.o .h) (.i (.o .h)) ((List.range (j + 1)).map (H i))).nat; rw [hA, hsc, List.cons_append]; exact (show 5 ≤ 5 by omega)) ?_
          show Shr _ (HY b L t i ((List.range (j + 1)).map (H i)) (j + 1))
          rw [hsc, List.cons_append]
          refine Shr.of ?_ ?_ rfl rfl
          · show Rel _ _ ((.n (.n (.n (.n .e (some (.ns)) .e) (some (.pt .h 0 0)) .e) (some (.lst 1 (aC bY L))) (.n (.n .e (some ((vX (.o (.o .h)) 3 (a :: (s ++ [(dJ b (bU L) ((i : Int), (j : Int)) t t.length)]))))) .e) none .e)) none (.n (.n (.n .e (some (.i .i64 (i : Int))) .e) none .e) (some (.lst 1 (ints t))) (.n (.n .e (some (.i .i64 ((j + 1 : Nat) : Int))) .e) none .e))) : Ev.T D) _
            rw [fD]
            (repeat' first | exact Rel.e | refine Rel.some ?_ ?_ ?_ | refine Rel.none ?_ ?_ | refine Rel.ee ?_ ?_)
            all_goals show Fz _ _ _ _
            all_goals first | exact .pu trivial | exact .kpt (show _ < 5 by simp [Pos.nat]) | exact .ksl (show _ < 5 by simp [Pos.nat]) | exact .kmp (show _ < 5 by simp [Pos.nat]) | exact .pu (aE _) | exact .pu (aB _)
          · show Rel _ _ ((.n (.n (.n .e (wU iB (a :: (s ++ [(dJ b (bU L) ((i : Int), (j : Int)) t t.length)]))) .e) none .e) (some (bZ b)) .e) : Ev.T Ev.C) _
            rw [fF]
            (repeat' first | exact Rel.e | refine Rel.some ?_ ?_ ?_ | refine Rel.none ?_ ?_ | refine Rel.ee ?_ ?_)
            all_goals first
              | exact RO'.of (show _ < 5 by simp [Pos.nat]) (aL b)
              | (refine RO'.of (show _ < 5 by simp [Pos.nat]) (ShC.grown (by omega) (aT.2 fun d hd => ?_)); rcases List.mem_append.1 hd with hd | hd <;> first | exact aT.1 (eI kB _) d hd | exact aT.1 (kB _) d hd)
      · obtain rfl : j = b.pls.toNat := by omega
        have hn := hne (by omega)
        cases A with
        | nil => exact absurd rfl hn
        | cons a s =>
        repeat' first | ((first | refine Qz ?_ | refine Qy ?_) <;> conv => whnf) | (refine WB.tt ?_; conv => whnf) | (refine WB.ff ?_; conv => whnf)
        refine WSt.app_first (r := [.sl (.o (.o .h)) 0 (s.length + 1) s.length 3]) (by rfl) (.inl rfl) (by rfl) (by rfl) (by rfl) (by rfl) ?_; conv => whnf
        repeat' first | ((first | refine Qz ?_ | refine Qy ?_) <;> conv => whnf) | (refine WB.tt ?_; conv => whnf) | (refine WB.ff ?_; conv => whnf)
        rw [hA] at osc
        refine AgainB.to (i + 1) (fun id => id.nat < 2 ∨ id.nat = 6) (by omega) (show i + 1 ≤ b.rws.toNat by omega) ?_ ?_ ?_ ?_
        · show (fX (.o .h) (.i (.i .h)) (oZ H i b.pls.toNat)).nat ≤ (fX (.o .h) (.i (.i .h)) (oZ H (i + 1) b.pls.toNat)).nat
          rw [hO, osc]; exact (show 2 ≤ 7 by omega)
        · show ∀ id : Pos, id.nat < (fX (.o .h) (.i (.i .h)) (oZ H i b.pls.toNat)).nat → _
          rw [hO]; exact fun id h => .inl h
        · show ∀ id : Pos, _ → id.nat < (fX (.o .h) (.i (.i .h)) (oZ H (i + 1) b.pls.toNat)).nat
          rw [osc]; exact fun id h => by show id.nat < 7; omega
        · show ShrB _ _ (HQ b L t (oZ H (i + 1) b.pls.toNat) (i + 1))
          rw [osc]
          refine ShrB.of ?_ ?_ rfl rfl
          · show Rel _ _ ((.n (.n (.n (.n .e (some (.sl (.o (.i .h)) 0 1 0 1)) .e) (some (.pt .h 0 0)) .e) (some (.lst 1 (aC bY L))) .e) none (.n (.n (.n .e (some (.i .i64 ((i + 1 : Nat) : Int))) .e) none .e) (some (.lst 1 (ints t))) .e)) : T D) _
            skip
            (repeat' first | exact Rel.e | refine Rel.some ?_ ?_ ?_ | refine Rel.none ?_ ?_ | refine Rel.ee ?_ ?_)
            all_goals show Fz _ _ _ _
            all_goals first | exact .pu trivial | exact .kpt (.inl (by simp [Pos.nat])) | exact .ksl (.inr rfl) | exact .pu (aE _) | exact .pu (aB _)
          · show Rel _ _ ((.n (.n .e none (.n .e (some (.cells false (([] ++ [D.lst 3 (aC iB (a :: s))]).map fun d => Cell.o d 0) 1)) .e)) (some (bZ b)) .e) : T C) _
            (repeat' first | exact Rel.e | refine Rel.some ?_ ?_ ?_ | refine Rel.none ?_ ?_ | refine Rel.ee ?_ ?_)
            all_goals first
              | exact ⟨.inl (by simp [Pos.nat]), aL b⟩
              | (refine ⟨.inr (by simp [Pos.nat]), ?_⟩; refine ShC.grownF (ds := []) (st := 0) (Nat.le_refl _) trivial ?_; exact Fz.G (a :: s) (by simp [Pos.nat]) (fun c h => h) GQ kB)
    · repeat' first | ((first | refine Qz ?_ | refine Qy ?_) <;> conv => whnf) | (refine WB.tt ?_; conv => whnf) | (refine WB.ff ?_; conv => whnf)
      rw [← oend (by omega)]
      exact Fin.t (.inr rfl) rfl .ns
  | cons a0 s0 =>
    have hs5 : s0.length + 1 ≤ 1000 := by have := olen; simp at this; omega
    conv => whnf
    repeat' first | ((first | refine Qz ?_ | refine Qy ?_) <;> conv => whnf) | (refine WB.tt ?_; conv => whnf) | (refine WB.ff ?_; conv => whnf)
    refine WB.dec (fun hd => ?_) (fun hd => ?_) <;> conv => whnf
    · have hlt : i < b.rws.toNat := by omega
      repeat' first | ((first | refine Qz ?_ | refine Qy ?_) <;> conv => whnf) | (refine WB.tt ?_; conv => whnf) | (refine WB.ff ?_; conv => whnf)
      refine Rn.loop (fun j : Nat => IE b L t i a0 s0 ((List.range j).map (H i)) j) (fun j => j ≤ b.pls.toNat ∧ True) (fun j => b.pls.toNat - j) 0 ?_ ?_ ?_
      · refine X.le.mk ?_ ?_ (Nat.le_refl _) rfl rfl
        · show T.le ((.n (.n (.n (.n .e (some (.sl (.o (.i .h)) 0 (s0.length + 1) s0.length 1)) .e) (some (.pt .h 0 0)) .e) (some (.lst 1 (aC bY L))) (.n (.n .e (some (.ns)) .e) none .e)) none (.n (.n (.n .e (some (.i .i64 (i : Int))) .e) none .e) (some (.lst 1 (ints t))) (.n (.n .e (some (.i .i64 0)) .e) none .e))) : Ev.T D) _
          skip
          (repeat' first | exact T.le_e _ | refine T.le_some ?_ rfl ?_ | refine T.le_none ?_ ?_ | refine T.le_ee ?_ ?_)
        · show T.le ((.n (.n .e none (.n .e (some (.cells false ((aC aS (a0 :: s0)).flatten.map fun d => Cell.o d s0.length) (s0.length + 1))) .e)) (some (bZ b)) (.n (.n (.n .e none .e) none .e) none .e)) : Ev.T Ev.C) _
          (repeat' first | exact T.le_e _ | refine T.le_some ?_ rfl ?_ | refine T.le_none ?_ ?_ | refine T.le_ee ?_ ?_)
      · exact ⟨Nat.zero_le _, trivial⟩
      rintro j ⟨hj, _⟩
      have hsc0 : (List.range (j + 1)).map (H i) = (List.range j).map (H i) ++ [H i j] := by rw [List.range_succ, List.map_append]; rfl
      have hAl : ((List.range j).map (H i)).length ≤ j := by simp
      have hne : 0 < j → (List.range j).map (H i) ≠ [] := fun h e => by have := congrArg List.length e; simp at this; omega
      have hHij := hHe i j
      generalize hA : (List.range j).map (H i) = A at *
      conv => whnf
      repeat' first | ((first | refine Qz ?_ | refine Qy ?_) <;> conv => whnf) | (refine WB.tt ?_; conv => whnf) | (refine WB.ff ?_; conv => whnf)
      refine WB.dec (fun hd2 => ?_) (fun hd2 => ?_) <;> conv => whnf
      · have hlt2 : j < b.pls.toNat := by omega
        have hsc := hsc0
        rw [hHij] at hsc
        cases A with
        | nil =>
          repeat' first | ((first | refine Qz ?_ | refine Qy ?_) <;> conv => whnf) | (refine WB.tt ?_; conv => whnf) | (refine WB.ff ?_; conv => whnf)
          refine Rn.loop (fun k : Nat => JC b L t i a0 s0 j (dJ b (bU L) ((i : Int), (j : Int)) t k) k) (fun k => k ≤ t.length) (fun k => t.length - k) 0 ?_ (Nat.zero_le _) ?_
          · refine X.le.mk ?_ ?_ (Nat.le_refl _) rfl rfl
            · show T.le ((.n (.n (.n (.n .e (some (.sl (.o (.i .h)) 0 (s0.length + 1) s0.length 1)) .e) (some (.pt .h 0 0)) (.n .e (some (.pt (.i (.i .h)) 0 0)) .e)) (some (.lst 1 (aC bY L))) (.n (.n .e (some (.ns)) .e) none .e)) none (.n (.n (.n .e (some (.i .i64 (i : Int))) .e) none (.n .e (some (.i .i64 0)) .e)) (some (.lst 1 (ints t))) (.n (.n .e (some (.i .i64 (j : Int))) .e) none .e))) : Ev.T D) _
              (repeat' first | exact T.le_e _ | refine T.le_some ?_ rfl ?_ | refine T.le_none ?_ ?_ | refine T.le_ee ?_ ?_)
            · show T.le ((.n (.n .e none (.n .e (some (.cells false ((aC aS (a0 :: s0)).flatten.map fun d => Cell.o d s0.length) (s0.length + 1))) .e)) (some (bZ b)) (.n .e none (.n .e (some (.cells false [.o (.i .i64 0) 0, .o (.i .i64 0) 0, .o (.i .i64 0) 0] 1)) .e))) : Ev.T Ev.C) _
              (repeat' first | exact T.le_e _ | refine T.le_some ?_ rfl ?_ | refine T.le_none ?_ ?_ | refine T.le_ee ?_ ?_)
          intro k hk
          have hk : k ≤ t.length := hk
          have hbd := mJ b (bU L) ((i : Int), (j : Int)) t k
          have hN : dJ b (bU L) ((i : Int), (j : Int)) t (k + 1) = mN (dJ b (bU L) ((i : Int), (j : Int)) t k) (iS b ((i : Int), (j : Int)) ((L.getD k default).getD i 0) k (t.getD k 0)) := rfl
          generalize hX : dJ b (bU L) ((i : Int), (j : Int)) t k = x at *
          conv => whnf
          repeat' first | ((first | refine Qz ?_ | refine Qy ?_) <;> conv => whnf) | (refine WB.tt ?_; conv => whnf) | (refine WB.ff ?_; conv => whnf)
          refine WB.dec (fun hd3 => ?_) (fun hd3 => ?_) <;> conv => whnf
          · have hk2 : k < t.length := by omega
            have hw := hW k hk2
            have hdk := hD _ (aM (d := 0) hk2)
            have cS := gC b V ((i : Int), (j : Int)) (xO hlt hlt2) ((L.getD k default).getD i 0) (t.getD k 0) (hw.2 i (by omega)) hdk l4
            by_cases k1 : (L.getD k default).getD i 0 = b.sun.getD k 0
            · cases k2 : tB b ((i : Int), (j : Int)) ((L.getD k default).getD i 0) (t.getD k 0) with
              | true =>
                rw [k2] at cS
                have hN2 : dJ b (bU L) ((i : Int), (j : Int)) t (k + 1) = ⟨x.sun + 1, x.calm + 1, x.good + 1⟩ := by
                  rw [hN]; unfold mN iS
                  rw [decide_eq_true k1, k2]
                  simp [oU]
                repeat' first | ((first | refine Qz ?_ | refine Qf (cS) ?_ | with_reducible (first | refine Qm ?_ | refine Qn ?_ | refine Qo ?_ | refine Qp ?_ | refine WB.nt ?_ | refine WB.nf ?_ | refine WB.dec (fun h => ?_) (fun h => ?_) | refine WB.ndec (fun h => ?_) (fun h => ?_)) | refine WB.mk (fun h => ?_) (fun h => ?_)) <;> conv => whnf) | (refine WB.tt ?_; conv => whnf) | (refine WB.ff ?_; conv => whnf)
                refine Again.to (k + 1) (by omega) (show k + 1 ≤ t.length by omega) (Nat.le_refl _) ?_
                show Shr _ (JC b L t i a0 s0 j (dJ b (bU L) ((i : Int), (j : Int)) t (k + 1)) (k + 1))
                rw [hN2]
                refine Shr.of ?_ ?_ rfl rfl
                · show Rel _ _ ((.n (.n (.n (.n .e (some (.sl (.o (.i .h)) 0 (s0.length + 1) s0.length 1)) .e) (some (.pt .h 0 0)) (.n .e (some (.pt (.i (.i .h)) 0 0)) .e)) (some (.lst 1 (aC bY L))) (.n (.n .e (some (.ns)) .e) none .e)) none (.n (.n (.n .e (some (.i .i64 (i : Int))) .e) none (.n .e (some (.i .i64 ((k + 1 : Nat) : Int))) .e)) (some (.lst 1 (ints t))) (.n (.n .e (some (.i .i64 (j : Int))) .e) none .e))) : T D) _
                  (repeat' first | exact Rel.e | refine Rel.some ?_ ?_ ?_ | refine Rel.none ?_ ?_ | refine Rel.ee ?_ ?_)
                  all_goals show Fz _ _ _ _
                  all_goals first | exact .pu trivial | exact .kpt (show _ < 8 by simp [Pos.nat]) | exact .ksl (show _ < 8 by simp [Pos.nat]) | exact .pu (aE _) | exact .pu (aB _)
                · show Rel _ _ ((.n (.n .e none (.n .e (some (.cells false ((aC aS (a0 :: s0)).flatten.map fun d => Cell.o d s0.length) (s0.length + 1))) .e)) (some (bZ b)) (.n .e none (.n .e (some (.cells false [.o (.i .i64 (x.sun + 1)) 0, .o (.i .i64 (x.calm + 1)) 0, .o (.i .i64 (x.good + 1)) 0] 1)) .e))) : T C) _
                  (repeat' first | exact Rel.e | refine Rel.some ?_ ?_ ?_ | refine Rel.none ?_ ?_ | refine Rel.ee ?_ ?_)
                  all_goals first
                    | exact RO'.of (show _ < 8 by simp [Pos.nat]) (aL b)
                    | exact RO'.of (show _ < 8 by simp [Pos.nat]) dN
                    | exact RO'.of (show _ < 8 by simp [Pos.nat]) (ShC.G bB a0 s0)
              | false =>
                rw [k2] at cS
                have hN2 : dJ b (bU L) ((i : Int), (j : Int)) t (k + 1) = ⟨x.sun + 1, x.calm, x.good⟩ := by
                  rw [hN]; unfold mN iS
                  rw [decide_eq_true k1, k2]
                  simp [oU]
                repeat' first | ((first | refine Qz ?_ | refine Qf (cS) ?_ | with_reducible (first | refine Qm ?_ | refine Qn ?_ | refine Qo ?_ | refine Qp ?_ | refine WB.nt ?_ | refine WB.nf ?_ | refine WB.dec (fun h => ?_) (fun h => ?_) | refine WB.ndec (fun h => ?_) (fun h => ?_)) | refine WB.mk (fun h => ?_) (fun h => ?_)) <;> conv => whnf) | (refine WB.tt ?_; conv => whnf) | (refine WB.ff ?_; conv => whnf)
                refine Again.to (k + 1) (by omega) (show k + 1 ≤ t.length by omega) (Nat.le_refl _) ?_
                show Shr _ (JC b L t i a0 s0 j (dJ b (bU L) ((i : Int), (j : Int)) t (k + 1)) (k + 1))
                rw [hN2]
                refine Shr.of ?_ ?_ rfl rfl
                · show Rel _ _ ((.n (.n (.n (.n .e (some (.sl (.o (.i .h)) 0 (s0.length + 1) s0.length 1)) .e) (some (.pt .h 0 0)) (.n .e (some (.pt (.i (.i .h)) 0 0)) .e)) (some (.lst 1 (aC bY L))) (.n (.n .e (some (.ns)) .e) none .e)) none (.n (.n (.n .e (some (.i .i64 (i : Int))) .e) none (.n .e (some (.i .i64 ((k + 1 : Nat) : Int))) .e)) (some (.lst 1 (ints t))) (.n (.n .e (some (.i .i64 (j : Int))) .e) none .e))) : T D) _
                  (repeat' first | exact Rel.e | refine Rel.some ?_ ?_ ?_ | refine Rel.none ?_ ?_ | refine Rel.ee ?_ ?_)
                  all_goals show Fz _ _ _ _
                  all_goals first | exact .pu trivial | exact .kpt (show _ < 8 by simp [Pos.nat]) | exact .ksl (show _ < 8 by simp [Pos.nat]) | exact .pu (aE _) | exact .pu (aB _)
                · show Rel _ _ ((.n (.n .e none (.n .e (some (.cells false ((aC aS (a0 :: s0)).flatten.map fun d => Cell.o d s0.length) (s0.length + 1))) .e)) (some (bZ b)) (.n .e none (.n .e (some (.cells false [.o (.i .i64 (x.sun + 1)) 0, .o (.i .i64 x.calm) 0, .o (.i .i64 x.good) 0] 1)) .e))) : T C) _
                  (repeat' first | exact Rel.e | refine Rel.some ?_ ?_ ?_ | refine Rel.none ?_ ?_ | refine Rel.ee ?_ ?_)
                  all_goals first
                    | exact RO'.of (show _ < 8 by simp [Pos.nat]) (aL b)
                    | exact RO'.of (show _ < 8 by simp [Pos.nat]) dN
                    | exact RO'.of (show _ < 8 by simp [Pos.nat]) (ShC.G bB a0 s0)
            · cases k2 : tB b ((i : Int), (j : Int)) ((L.getD k default).getD i 0) (t.getD k 0) with
              | true =>
                rw [k2] at cS
                have hN2 : dJ b (bU L) ((i : Int), (j : Int)) t (k + 1) = ⟨x.sun, x.calm + 1, x.good⟩ := by
                  rw [hN]; unfold mN iS
                  rw [decide_eq_false k1, k2]
                  simp [oU]
                repeat' first | ((first | refine Qz ?_ | refine Qf (cS) ?_ | with_reducible (first | refine Qm ?_ | refine Qn ?_ | refine Qo ?_ | refine Qp ?_ | refine WB.nt ?_ | refine WB.nf ?_ | refine WB.dec (fun h => ?_) (fun h => ?_) | refine WB.ndec (fun h => ?_) (fun h => ?_)) | refine WB.mk (fun h => ?_) (fun h => ?_)) <;> conv => whnf) | (refine WB.tt ?_; conv => whnf) | (refine WB.ff ?_; conv => whnf)
                refine Again.to (k + 1) (by omega) (show k + 1 ≤ t.length by omega) (Nat.le_refl _) ?_
                show Shr _ (JC b L t i a0 s0 j (dJ b (bU L) ((i : Int), (j : Int)) t (k + 1)) (k + 1))
                rw [hN2]
                refine Shr.of ?_ ?_ rfl rfl
                · show Rel _ _ ((.n (.n (.n (.n .e (some (.sl (.o (.i .h)) 0 (s0.length + 1) s0.length 1)) .e) (some (.pt .h 0 0)) (.n .e (some (.pt (.i (.i .h)) 0 0)) .e)) (some (.lst 1 (aC bY L))) (.n (.n .e (some (.ns)) .e) none .e)) none (.n (.n (.n .e (some (.i .i64 (i : Int))) .e) none (.n .e (some (.i .i64 ((k + 1 : Nat) : Int))) .e)) (some (.lst 1 (ints t))) (.n (.n .e (some (.i .i64 (j : Int))) .e) none .e))) : T D) _
                  (repeat' first | exact Rel.e | refine Rel.some ?_ ?_ ?_ | refine Rel.none ?_ ?_ | refine Rel.ee ?_ ?_)
                  all_goals show Fz _ _ _ _
                  all_goals first | exact .pu trivial | exact .kpt (show _ < 8 by simp [Pos.nat]) | exact .ksl (show _ < 8 by simp [Pos.nat]) | exact .pu (aE _) | exact .pu (aB _)
                · show Rel _ _ ((.n (.n .e none (.n .e (some (.cells false ((aC aS (a0 :: s0)).flatten.map fun d => Cell.o d s0.length) (s0.length + 1))) .e)) (some (bZ b)) (.n .e none (.n .e (some (.cells false [.o (.i .i64 x.sun) 0, .o (.i .i64 (x.calm + 1)) 0, .o (.i .i64 x.good) 0] 1)) .e))) : T C) _
                  (repeat' first | exact Rel.e | refine Rel.some ?_ ?_ ?_ | refine Rel.none ?_ ?_ | refine Rel.ee ?_ ?_)
                  all_goals first
                    | exact RO'.of (show _ < 8 by simp [Pos.nat]) (aL b)
                    | exact RO'.of (show _ < 8 by simp [Pos.nat]) dN
                    | exact RO'.of (show _ < 8 by simp [Pos.nat]) (ShC.G bB a0 s0)
              | false =>
                rw [k2] at cS
                have hN2 : dJ b (bU L) ((i : Int), (j : Int)) t (k + 1) = ⟨x.sun, x.calm, x.good⟩ := by
                  rw [hN]; unfold mN iS
                  rw [decide_eq_false k1, k2]
                  simp [oU]
                repeat' first | ((first | refine Qz ?_ | refine Qf (cS) ?_ | with_reducible (first | refine Qm ?_ | refine Qn ?_ | refine Qo ?_ | refine Qp ?_ | refine WB.nt ?_ | refine WB.nf ?_ | refine WB.dec (fun h => ?_) (fun h => ?_) | refine WB.ndec (fun h => ?_) (fun h => ?_)) | refine WB.mk (fun h => ?_) (fun h => ?_)) <;> conv => whnf) | (refine WB.tt ?_; conv => whnf) | (refine WB.ff ?_; conv => whnf)
                refine Again.to (k + 1) (by omega) (show k + 1 ≤ t.length by omega) (Nat.le_refl _) ?_
                show Shr _ (JC b L t i a0 s0 j (dJ b (bU L) ((i : Int), (j : Int)) t (k + 1)) (k + 1))
                rw [hN2]
                refine Shr.of ?_ ?_ rfl rfl
                · show Rel _ _ ((.n (.n (.n (.n .e (some (.sl (.o (.i .h)) 0 (s0.length + 1) s0.length 1)) .e) (some (.pt .h 0 0)) (.n .e (some (.pt (.i (.i .h)) 0 0)) .e)) (some (.lst 1 (aC bY L))) (.n (.n .e (some (.ns)) .e) none .e)) none (.n (.n (.n .e (some (.i .i64 (i : Int))) .e) none (.n .e (some (.i .i64 ((k + 1 : Nat) : Int))) .e)) (some (.lst 1 (ints t))) (.n (.n .e (some (.i .i64 (j : Int))) .e) none .e))) : T D) _
                  (repeat' first | exact Rel.e | refine Rel.some ?_ ?_ ?_ | refine Rel.none ?_ ?_ | refine Rel.ee ?_ ?_)
                  all_goals show Fz _ _ _ _
                  all_goals first | exact .pu trivial | exact .kpt (show _ < 8 by simp [Pos.nat]) | exact .ksl (show _ < 8 by simp [Pos.nat]) | exact .pu (aE _) | exact .pu (aB _)
                · show Rel _ _ ((.n (.n .e none (.n .e (some (.cells false ((aC aS (a0 :: s0)).flatten.map fun d => Cell.o d s0.length) (s0.length + 1))) .e)) (some (bZ b)) (.n .e none (.n .e (some (.cells false [.o (.i .i64 x.sun) 0, .o (.i .i64 x.calm) 0, .o (.i .i64 x.good) 0] 1)) .e))) : T C) _
                  (repeat' first | exact Rel.e | refine Rel.some ?_ ?_ ?_ | refine Rel.none ?_ ?_ | refine Rel.ee ?_ ?_)
                  all_goals first
                    | exact RO'.of (show _ < 8 by simp [Pos.nat]) (aL b)
                    | exact RO'.of (show _ < 8 by simp [Pos.nat]) dN
                    | exact RO'.of (show _ < 8 by simp [Pos.nat]) (ShC.G bB a0 s0)
          obtain rfl : k = t.length := by omega
          subst hX
          repeat' first | ((first | refine Qz ?_ | refine Qy ?_) <;> conv => whnf) | (refine WB.tt ?_; conv => whnf) | (refine WB.ff ?_; conv => whnf)
          refine WSt.app_first (r := iB (dJ b (bU L) ((i : Int), (j : Int)) t t.length)) (by rfl) (.inl rfl) (by rfl) (by rfl) (by rfl) (by rfl) ?_; conv => whnf
          repeat' first | ((first | refine Qz ?_ | refine Qy ?_) <;> conv => whnf) | (refine WB.tt ?_; conv => whnf) | (refine WB.ff ?_; conv => whnf)
          refine Again.to (j + 1) (by omega) ⟨by omega, trivial⟩ (by show (fX (.i (.i .h)) (.o (.i (.o .h))) ((List.range j).map (H i))).nat ≤ (fX (.i (.i .h)) (.o (.i (.o .h))) ((List.range (j + 1)).map (H i))).nat; rw [hA, hsc]; exact (show 7 ≤ 10 by omega)) ?_
          show Shr _ (IE b L t i a0 s0 ((List.range (j + 1)).map (H i)) (j + 1))
          rw [hsc]
          refine Shr.of ?_ ?_ rfl rfl
          · show Rel _ _ ((.n (.n (.n (.n .e (some (.sl (.o (.i .h)) 0 (s0.length + 1) s0.length 1)) .e) (some (.pt .h 0 0)) .e) (some (.lst 1 (aC bY L))) (.n (.n .e (some ((.sl (.i (.o (.o .h))) 0 1 0 3))) .e) none .e)) none (.n (.n (.n .e (some (.i .i64 (i : Int))) .e) none .e) (some (.lst 1 (ints t))) (.n (.n .e (some (.i .i64 ((j + 1 : Nat) : Int))) .e) none .e))) : Ev.T D) _
            skip
            (repeat' first | exact Rel.e | refine Rel.some ?_ ?_ ?_ | refine Rel.none ?_ ?_ | refine Rel.ee ?_ ?_)
            all_goals show Fz _ _ _ _
            all_goals first | exact .pu trivial | exact .kpt (show _ < 10 by simp [Pos.nat]) | exact .ksl (show _ < 10 by simp [Pos.nat]) | exact .kmp (show _ < 10 by simp [Pos.nat]) | exact .pu (aE _) | exact .pu (aB _)
          · show Rel _ _ ((.n (.n .e none (.n .e (some (.cells false ((aC aS (a0 :: s0)).flatten.map fun d => Cell.o d s0.length) (s0.length + 1))) .e)) (some (bZ b)) (.n (.n (.n .e (some (.cells false ((iB (dJ b (bU L) ((i : Int), (j : Int)) t t.length)).map fun d => Cell.o d 0) 1)) .e) none .e) none .e)) : Ev.T Ev.C) _
            skip
            (repeat' first | exact Rel.e | refine Rel.some ?_ ?_ ?_ | refine Rel.none ?_ ?_ | refine Rel.ee ?_ ?_)
            all_goals first
              | exact RO'.of (show _ < 10 by simp [Pos.nat]) (aL b)
              | exact RO'.of (show _ < 10 by simp [Pos.nat]) (ShC.G bB a0 s0)
              | (refine RO'.of (show _ < 10 by simp [Pos.nat]) (ShC.same fun c hc => ?_); obtain ⟨d, hd, rfl⟩ := List.mem_map.1 hc; exact .pu (aT.1 (kB _) d hd))
        | cons a s =>
          have hs6 : s.length + 1 ≤ 1000 := Nat.le_trans hAl (by omega)
          repeat' first | ((first | refine Qz ?_ | refine Qy ?_) <;> conv => whnf) | (refine WB.tt ?_; conv => whnf) | (refine WB.ff ?_; conv => whnf)
          refine Rn.loop (fun k : Nat => KH b L t i a0 s0 a s j (dJ b (bU L) ((i : Int), (j : Int)) t k) k) (fun k => k ≤ t.length) (fun k => t.length - k) 0 ?_ (Nat.zero_le _) ?_
          · refine X.le.mk ?_ ?_ (Nat.le_refl _) rfl rfl
            · show T.le ((.n (.n (.n (.n .e (some (.sl (.o (.i .h)) 0 (s0.length + 1) s0.length 1)) .e) (some (.pt .h 0 0)) (.n .e (some (.pt (.o (.i (.o .h))) 0 0)) .e)) (some (.lst 1 (aC bY L))) (.n (.n .e (some (.sl (.i (.o (.o .h))) 0 (s.length + 1) s.length 3)) .e) none .e)) none (.n (.n (.n .e (some (.i .i64 (i : Int))) .e) none (.n .e (some (.i .i64 0)) .e)) (some (.lst 1 (ints t))) (.n (.n .e (some (.i .i64 (j : Int))) .e) none .e))) : Ev.T D) _
              (repeat' first | exact T.le_e _ | refine T.le_some ?_ rfl ?_ | refine T.le_none ?_ ?_ | refine T.le_ee ?_ ?_)
            · show T.le ((.n (.n .e none (.n (.n .e (some (.cells false [.o (.i .i64 0) 0, .o (.i .i64 0) 0, .o (.i .i64 0) 0] 1)) .e) (some (.cells false ((aC aS (a0 :: s0)).flatten.map fun d => Cell.o d s0.length) (s0.length + 1))) .e)) (some (bZ b)) (.n (.n (.n .e (some (.cells false ((aC iB (a :: s)).flatten.map fun d => Cell.o d s.length) (s.length + 1))) .e) none .e) none .e)) : Ev.T Ev.C) _
              (repeat' first | exact T.le_e _ | refine T.le_some ?_ rfl ?_ | refine T.le_none ?_ ?_ | refine T.le_ee ?_ ?_)
          intro k hk
          have hk : k ≤ t.length := hk
          have hbd := mJ b (bU L) ((i : Int), (j : Int)) t k
          have hN : dJ b (bU L) ((i : Int), (j : Int)) t (k + 1) = mN (dJ b (bU L) ((i : Int), (j : Int)) t k) (iS b ((i : Int), (j : Int)) ((L.getD k default).getD i 0) k (t.getD k 0)) := rfl
          generalize hX : dJ b (bU L) ((i : Int), (j : Int)) t k = x at *
          conv => whnf
          repeat' first | ((first | refine Qz ?_ | refine Qy ?_) <;> conv => whnf) | (refine WB.tt ?_; conv => whnf) | (refine WB.ff ?_; conv => whnf)
          refine WB.dec (fun hd3 => ?_) (fun hd3 => ?_) <;> conv => whnf
          · have hk2 : k < t.length := by omega
            have hw := hW k hk2
            have hdk := hD _ (aM (d := 0) hk2)
            have cS := gC b V ((i : Int), (j : Int)) (xO hlt hlt2) ((L.getD k default).getD i 0) (t.getD k 0) (hw.2 i (by omega)) hdk l4
            by_cases k1 : (L.getD k default).getD i 0 = b.sun.getD k 0
            · cases k2 : tB b ((i : Int), (j : Int)) ((L.getD k default).getD i 0) (t.getD k 0) with
              | true =>
                rw [k2] at cS
                have hN2 : dJ b (bU L) ((i : Int), (j : Int)) t (k + 1) = ⟨x.sun + 1, x.calm + 1, x.good + 1⟩ := by
                  rw [hN]; unfold mN iS
                  rw [decide_eq_true k1, k2]
                  simp [oU]
                repeat' first | ((first | refine Qz ?_ | refine Qf (cS) ?_ | with_reducible (first | refine Qm ?_ | refine Qn ?_ | refine Qo ?_ | refine Qp ?_ | refine WB.nt ?_ | refine WB.nf ?_ | refine WB.dec (fun h => ?_) (fun h => ?_) | refine WB.ndec (fun h => ?_) (fun h => ?_)) | refine WB.mk (fun h => ?_) (fun h => ?_)) <;> conv => whnf) | (refine WB.tt ?_; conv => whnf) | (refine WB.ff ?_; conv => whnf)
                refine Again.to (k + 1) (by omega) (show k + 1 ≤ t.length by omega) (Nat.le_refl _) ?_
                show Shr _ (KH b L t i a0 s0 a s j (dJ b (bU L) ((i : Int), (j : Int)) t (k + 1)) (k + 1))
                rw [hN2]
                refine Shr.of ?_ ?_ rfl rfl
                · show Rel _ _ ((.n (.n (.n (.n .e (some (.sl (.o (.i .h)) 0 (s0.length + 1) s0.length 1)) .e) (some (.pt .h 0 0)) (.n .e (some (.pt (.o (.i (.o .h))) 0 0)) .e)) (some (.lst 1 (aC bY L))) (.n (.n .e (some (.sl (.i (.o (.o .h))) 0 (s.length + 1) s.length 3)) .e) none .e)) none (.n (.n (.n .e (some (.i .i64 (i : Int))) .e) none (.n .e (some (.i .i64 ((k + 1 : Nat) : Int))) .e)) (some (.lst 1 (ints t))) (.n (.n .e (some (.i .i64 (j : Int))) .e) none .e))) : T D) _
                  (repeat' first | exact Rel.e | refine Rel.some ?_ ?_ ?_ | refine Rel.none ?_ ?_ | refine Rel.ee ?_ ?_)
                  all_goals show Fz _ _ _ _
                  all_goals first | exact .pu trivial | exact .kpt (show _ < 11 by simp [Pos.nat]) | exact .ksl (show _ < 11 by simp [Pos.nat]) | exact .pu (aE _) | exact .pu (aB _)
                · show Rel _ _ ((.n (.n .e none (.n (.n .e (some (.cells false [.o (.i .i64 (x.sun + 1)) 0, .o (.i .i64 (x.calm + 1)) 0, .o (.i .i64 (x.good + 1)) 0] 1)) .e) (some (.cells false ((aC aS (a0 :: s0)).flatten.map fun d => Cell.o d s0.length) (s0.length + 1))) .e)) (some (bZ b)) (.n (.n (.n .e (some (.cells false ((aC iB (a :: s)).flatten.map fun d => Cell.o d s.length) (s.length + 1))) .e) none .e) none .e)) : T C) _
                  (repeat' first | exact Rel.e | refine Rel.some ?_ ?_ ?_ | refine Rel.none ?_ ?_ | refine Rel.ee ?_ ?_)
                  all_goals first
                    | exact RO'.of (show _ < 11 by simp [Pos.nat]) (aL b)
                    | exact RO'.of (show _ < 11 by simp [Pos.nat]) dN
                    | exact RO'.of (show _ < 11 by simp [Pos.nat]) (ShC.G kB a s)
                    | exact RO'.of (show _ < 11 by simp [Pos.nat]) (ShC.G bB a0 s0)
              | false =>
                rw [k2] at cS
                have hN2 : dJ b (bU L) ((i : Int), (j : Int)) t (k + 1) = ⟨x.sun + 1, x.calm, x.good⟩ := by
                  rw [hN]; unfold mN iS
                  rw [decide_eq_true k1, k2]
                  simp [oU]
                repeat' first | ((first | refine Qz ?_ | refine Qf (cS) ?_ | with_reducible (first | refine Qm ?_ | refine Qn ?_ | refine Qo ?_ | refine Qp ?_ | refine WB.nt ?_ | refine WB.nf ?_ | refine WB.dec (fun h => ?_) (fun h => ?_) | refine WB.ndec (fun h => ?_) (fun h => ?_)) | refine WB.mk (fun h => ?_) (fun h => ?_)) <;> conv => whnf) | (refine WB.tt ?_; conv => whnf) | (refine WB.ff ?_; conv => whnf)
                refine Again.to (k + 1) (by omega) (show k + 1 ≤ t.length by omega) (Nat.le_refl _) ?_
                show Shr _ (KH b L t i a0 s0 a s j (dJ b (bU L) ((i : Int), (j : Int)) t (k + 1)) (k + 1))
                rw [hN2]
                refine Shr.of ?_ ?_ rfl rfl
                · show Rel _ _ ((.n (.n (.n (.n .e (some (.sl (.o (.i .h)) 0 (s0.length + 1) s0.length 1)) .e) (some (.pt .h 0 0)) (.n .e (some (.pt (.o (.i (.o .h))) 0 0)) .e)) (some (.lst 1 (aC bY L))) (.n (.n .e (some (.sl (.i (.o (.o .h))) 0 (s.length + 1) s.length 3)) .e) none .e)) none (.n (.n (.n .e (some (.i .i64 (i : Int))) .e) none (.n .e (some (.i .i64 ((k + 1 : Nat) : Int))) .e)) (some (.lst 1 (ints t))) (.n (.n .e (some (.i .i64 (j : Int))) .e) none .e))) : T D) _
                  (repeat' first | exact Rel.e | refine Rel.some ?_ ?_ ?_ | refine Rel.none ?_ ?_ | refine Rel.ee ?_ ?_)
                  all_goals show Fz _ _ _ _
                  all_goals first | exact .pu trivial | exact .kpt (show _ < 11 by simp [Pos.nat]) | exact .ksl (show _ < 11 by simp [Pos.nat]) | exact .pu (aE _) | exact .pu (aB _)
                · show Rel _ _ ((.n (.n .e none (.n (.n .e (some (.cells false [.o (.i .i64 (x.sun + 1)) 0, .o (.i .i64 x.calm) 0, .o (.i .i64 x.good) 0] 1)) .e) (some (.cells false ((aC aS (a0 :: s0)).flatten.map fun d => Cell.o d s0.length) (s0.length + 1))) .e)) (some (bZ b)) (.n (.n (.n .e (some (.cells false ((aC iB (a :: s)).flatten.map fun d => Cell.o d s.length) (s.length + 1))) .e) none .e) none .e)) : T C) _
                  (repeat' first | exact Rel.e | refine Rel.some ?_ ?_ ?_ | refine Rel.none ?_ ?_ | refine Rel.ee ?_ ?_)
                  all_goals first
                    | exact RO'.of (show _ < 11 by simp [Pos.nat]) (aL b)
                    | exact RO'.of (show _ < 11 by simp [Pos.nat]) dN
                    | exact RO'.of (show _ < 11 by simp [Pos.nat]) (ShC.G kB a s)
                    | exact RO'.of (show _ < 11 by simp [Pos.nat]) (ShC.G bB a0 s0)
            · cases k2 : tB b ((i : Int), (j : Int)) ((L.getD k default).getD i 0) (t.getD k 0) with
              | true =>
                rw [k2] at cS
                have hN2 : dJ b (bU L) ((i : Int), (j : Int)) t (k + 1) = ⟨x.sun, x.calm + 1, x.good⟩ := by
                  rw [hN]; unfold mN iS
                  rw [decide_eq_false k1, k2]
                  simp [oU]
                repeat' first | ((first | refine Qz ?_ | refine Qf (cS) ?_ | with_reducible (first | refine Qm ?_ | refine Qn ?_ | refine Qo ?_ | refine Qp ?_ | refine WB.nt ?_ | refine WB.nf ?_ | refine WB.dec (fun h => ?_) (fun h => ?_) | refine WB.ndec (fun h => ?_) (fun h => ?_)) | refine WB.mk (fun h => ?_) (fun h => ?_)) <;> conv => whnf) | (refine WB.tt ?_; conv => whnf) | (refine WB.ff ?_; conv => whnf)
                refine Again.to (k + 1) (by omega) (show k + 1 ≤ t.length by omega) (Nat.le_refl _) ?_
                show Shr _ (KH b L t i a0 s0 a s j (dJ b (bU L) ((i : Int), (j : Int)) t (k + 1)) (k + 1))
                rw [hN2]
                refine Shr.of ?_ ?_ rfl rfl
                · show Rel _ _ ((.n (.n (.n (.n .e (some (.sl (.o (.i .h)) 0 (s0.length + 1) s0.length 1)) .e) (some (.pt .h 0 0)) (.n .e (some (.pt (.o (.i (.o .h))) 0 0)) .e)) (some (.lst 1 (aC bY L))) (.n (.n .e (some (.sl (.i (.o (.o .h))) 0 (s.length + 1) s.length 3)) .e) none .e)) none (.n (.n (.n .e (some (.i .i64 (i : Int))) .e) none (.n .e (some (.i .i64 ((k + 1 : Nat) : Int))) .e)) (some (.lst 1 (ints t))) (.n (.n .e (some (.i .i64 (j : Int))) .e) none .e))) : T D) _
                  (repeat' first | exact Rel.e | refine Rel.some ?_ ?_ ?_ | refine Rel.none ?_ ?_ | refine Rel.ee ?_ ?_)
                  all_goals show Fz _ _ _ _
                  all_goals first | exact .pu trivial | exact .kpt (show _ < 11 by simp [Pos.nat]) | exact .ksl (show _ < 11 by simp [Pos.nat]) | exact .pu (aE _) | exact .pu (aB _)
                · show Rel _ _ ((.n (.n .e none (.n (.n .e (some (.cells false [.o (.i .i64 x.sun) 0, .o (.i .i64 (x.calm + 1)) 0, .o (.i .i64 x.good) 0] 1)) .e) (some (.cells false ((aC aS (a0 :: s0)).flatten.map fun d => Cell.o d s0.length) (s0.length + 1))) .e)) (some (bZ b)) (.n (.n (.n .e (some (.cells false ((aC iB (a :: s)).flatten.map fun d => Cell.o d s.length) (s.length + 1))) .e) none .e) none .e)) : T C) _
                  (repeat' first | exact Rel.e | refine Rel.some ?_ ?_ ?_ | refine Rel.none ?_ ?_ | refine Rel.ee ?_ ?_)
                  all_goals first
                    | exact RO'.of (show _ < 11 by simp [Pos.nat]) (aL b)
                    | exact RO'.of (show _ < 11 by simp [Pos.nat]) dN
                    | exact RO'.of (show _ < 11 by simp [Pos.nat]) (ShC.G kB a s)
                    | exact RO'.of (show _ < 11 by simp [Pos.nat]) (ShC.G bB a0 s0)
              | false =>
                rw [k2] at cS
                have hN2 : dJ b (bU L) ((i : Int), (j : Int)) t (k + 1) = ⟨x.sun, x.calm, x.good⟩ := by
                  rw [hN]; unfold mN iS
                  rw [decide_eq_false k1, k2]
                  simp [oU]
                repeat' first | ((first | refine Qz ?_ | refine Qf (cS) ?_ | with_reducible (first | refine Qm ?_ | refine Qn ?_ | refine Qo ?_ | refine Qp ?_ | refine WB.nt ?_ | refine WB.nf ?_ | refine WB.dec (fun h => ?_) (fun h => ?_) | refine WB.ndec (fun h => ?_) (fun h => ?_)) | refine WB.mk (fun h => ?_) (fun h => ?_)) <;> conv => whnf) | (refine WB.tt ?_; conv => whnf) | (refine WB.ff ?_; conv => whnf)
                refine Again.to (k + 1) (by omega) (show k + 1 ≤ t.length by omega) (Nat.le_refl _) ?_
                show Shr _ (KH b L t i a0 s0 a s j (dJ b (bU L) ((i : Int), (j : Int)) t (k + 1)) (k + 1))
                rw [hN2]
                refine Shr.of ?_ ?_ rfl rfl
                · show Rel _ _ ((.n (.n (.n (.n .e (some (.sl (.o (.i .h)) 0 (s0.length + 1) s0.length 1)) .e) (some (.pt .h 0 0)) (.n .e (some (.pt (.o (.i (.o .h))) 0 0)) .e)) (some (.lst 1 (aC bY L))) (.n (.n .e (some (.sl (.i (.o (.o .h))) 0 (s.length + 1) s.length 3)) .e) none .e)) none (.n (.n (.n .e (some (.i .i64 (i : Int))) .e) none (.n .e (some (.i .i64 ((k + 1 : Nat) : Int))) .e)) (some (.lst 1 (ints t))) (.n (.n .e (some (.i .i64 (j : Int))) .e) none .e))) : T D) _
                  (repeat' first | exact Rel.e | refine Rel.some ?_ ?_ ?_ | refine Rel.none ?_ ?_ | refine Rel.ee ?_ ?_)
                  all_goals show Fz _ _ _ _
                  all_goals first | exact .pu trivial | exact .kpt (show _ < 11 by simp [Pos.nat]) | exact .ksl (show _ < 11 by simp [Pos.nat]) | exact .pu (aE _) | exact .pu (aB _)
                · show Rel _ _ ((.n (.n .e none (.n (.n .e (some (.cells false [.o (.i .i64 x.sun) 0, .o (.i .i64 x.calm) 0, .o (.i .i64 x.good) 0] 1)) .e) (some (.cells false ((aC aS (a0 :: s0)).flatten.map fun d => Cell.o d s0.length) (s0.length + 1))) .e)) (some (bZ b)) (.n (.n (.n .e (some (.cells false ((aC iB (a :: s)).flatten.map fun d => Cell.o d s.length) (s.length + 1))) .e) none .e) none .e)) : T C) _
                  (repeat' first | exact Rel.e | refine Rel.some ?_ ?_ ?_ | refine Rel.none ?_ ?_ | refine Rel.ee ?_ ?_)
                  all_goals first
                    | exact RO'.of (show _ < 11 by simp [Pos.nat]) (aL b)
                    | exact RO'.of (show _ < 11 by simp [Pos.nat]) dN
                    | exact RO'.of (show _ < 11 by simp [Pos.nat]) (ShC.G kB a s)
                    | exact RO'.of (show _ < 11 by simp [Pos.nat]) (ShC.G bB a0 s0)
          obtain rfl : k = t.length := by omega
          subst hX
          repeat' first | ((first | refine Qz ?_ | refine Qy ?_) <;> conv => whnf) | (refine WB.tt ?_; conv => whnf) | (refine WB.ff ?_; conv => whnf)
          refine WSt.app_one (id := (.i (.o (.o .h)))) (ds := (aC iB (a :: s)).flatten) (r := iB (dJ b (bU L) ((i : Int), (j : Int)) t t.length)) (by rfl) (by rfl) (by rfl) (by rfl) (by rfl) (by rfl) (by rw [dT (z := 3) GQ]; rfl) (by rfl) (by rfl) (by omega) (by rfl) ?_; conv => whnf
          repeat' first | ((first | refine Qz ?_ | refine Qy ?_) <;> conv => whnf) | (refine WB.tt ?_; conv => whnf) | (refine WB.ff ?_; conv => whnf)
          refine Again.to (j + 1) (by omega) ⟨by omega, trivial⟩ (by show (fX (.i (.i .h)) (.o (.i (.o .h))) ((List.range j).map (H i))).nat ≤ (fX (.i (.i .h)) (.o (.i (.o .h))) ((List.range (j + 1)).map (H i))).nat; rw [hA, hsc, List.cons_append]; exact (show 10 ≤ 10 by omega)) ?_
          show Shr _ (IE b L t i a0 s0 ((List.range (j + 1)).map (H i)) (j + 1))
          rw [hsc, List.cons_append]
          refine Shr.of ?_ ?_ rfl rfl
          · show Rel _ _ ((.n (.n (.n (.n .e (some (.sl (.o (.i .h)) 0 (s0.length + 1) s0.length 1)) .e) (some (.pt .h 0 0)) .e) (some (.lst 1 (aC bY L))) (.n (.n .e (some ((vX (.i (.o (.o .h))) 3 (a :: (s ++ [(dJ b (bU L) ((i : Int), (j : Int)) t t.length)]))))) .e) none .e)) none (.n (.n (.n .e (some (.i .i64 (i : Int))) .e) none .e) (some (.lst 1 (ints t))) (.n (.n .e (some (.i .i64 ((j + 1 : Nat) : Int))) .e) none .e))) : Ev.T D) _
            rw [fD]
            (repeat' first | exact Rel.e | refine Rel.some ?_ ?_ ?_ | refine Rel.none ?_ ?_ | refine Rel.ee ?_ ?_)
            all_goals show Fz _ _ _ _
            all_goals first | exact .pu trivial | exact .kpt (show _ < 10 by simp [Pos.nat]) | exact .ksl (show _ < 10 by simp [Pos.nat]) | exact .kmp (show _ < 10 by simp [Pos.nat]) | exact .pu (aE _) | exact .pu (aB _)
          · show Rel _ _ ((.n (.n .e none (.n .e (some (.cells false ((aC aS (a0 :: s0)).flatten.map fun d => Cell.o d s0.length) (s0.length + 1))) .e)) (some (bZ b)) (.n (.n (.n .e (wU iB (a :: (s ++ [(dJ b (bU L) ((i : Int), (j : Int)) t t.length)]))) .e) none .e) none .e)) : Ev.T Ev.C) _
            rw [fF]
            (repeat' first | exact Rel.e | refine Rel.some ?_ ?_ ?_ | refine Rel.none ?_ ?_ | refine Rel.ee ?_ ?_)
            all_goals first
              | exact RO'.of (show _ < 10 by simp [Pos.nat]) (aL b)
              | exact RO'.of (show _ < 10 by simp [Pos.nat]) (ShC.G bB a0 s0)
              | (refine RO'.of (show _ < 10 by simp [Pos.nat]) (ShC.grown (by omega) (aT.2 fun d hd => ?_)); rcases List.mem_append.1 hd with hd | hd <;> first | exact aT.1 (eI kB _) d hd | exact aT.1 (kB _) d hd)
      · obtain rfl : j = b.pls.toNat := by omega
        have hn := hne (by omega)
        cases A with
        | nil => exact absurd rfl hn
        | cons a s =>
        repeat' first | ((first | refine Qz ?_ | refine Qy ?_) <;> conv => whnf) | (refine WB.tt ?_; conv => whnf) | (refine WB.ff ?_; conv => whnf)
        refine WSt.app_one (id := (.o (.i .h))) (ds := (aC aS (a0 :: s0)).flatten) (r := [.sl (.i (.o (.o .h))) 0 (s.length + 1) s.length 3]) (by rfl) (by rfl) (by rfl) (by rfl) (by rfl) (by rfl) (by rw [dT (z := 1) pV]; rfl) (by rfl) (by rfl) (by omega) (by rfl) ?_; conv => whnf
        repeat' first | ((first | refine Qz ?_ | refine Qy ?_) <;> conv => whnf) | (refine WB.tt ?_; conv => whnf) | (refine WB.ff ?_; conv => whnf)
        rw [hA] at osc
        rw [List.cons_append] at osc
        refine AgainB.sh (i + 1) (by omega) (show i + 1 ≤ b.rws.toNat by omega) ?_ ?_
        · show (fX (.o .h) (.i (.i .h)) (oZ H i b.pls.toNat)).nat ≤ (fX (.o .h) (.i (.i .h)) (oZ H (i + 1) b.pls.toNat)).nat
          rw [hO, osc]; exact (show 7 ≤ 7 by omega)
        · show Shr _ (HQ b L t (oZ H (i + 1) b.pls.toNat) (i + 1))
          rw [osc]
          refine Shr.of ?_ ?_ rfl rfl
          · show Rel _ _ ((.n (.n (.n (.n .e (some (vX (.o (.i .h)) 1 (a0 :: (s0 ++ [a :: s])))) .e) (some (.pt .h 0 0)) .e) (some (.lst 1 (aC bY L))) .e) none (.n (.n (.n .e (some (.i .i64 ((i + 1 : Nat) : Int))) .e) none .e) (some (.lst 1 (ints t))) .e)) : T D) _
            rw [fD]
            (repeat' first | exact Rel.e | refine Rel.some ?_ ?_ ?_ | refine Rel.none ?_ ?_ | refine Rel.ee ?_ ?_)
            all_goals show Fz _ _ _ _
            all_goals first | exact .pu trivial | exact .kpt (show _ < 7 by simp [Pos.nat]) | exact .ksl (show _ < 7 by simp [Pos.nat]) | exact .pu (aE _) | exact .pu (aB _)
          · show Rel _ _ ((.n (.n .e none (.n .e (wU aS (a0 :: (s0 ++ [a :: s]))) .e)) (some (bZ b)) .e) : T C) _
            rw [fF]
            (repeat' first | exact Rel.e | refine Rel.some ?_ ?_ ?_ | refine Rel.none ?_ ?_ | refine Rel.ee ?_ ?_)
            all_goals first
              | exact RO'.of (show _ < 7 by simp [Pos.nat]) (aL b)
              | exact RO'.of (show _ < 7 by simp [Pos.nat]) (ShC.grownF (by omega) (eI bB (a0 :: s0)) (Fz.G (a :: s) (fun h => absurd (show 9 < 7 from h) (by decide)) (fun c h => h) GQ kB))
    · repeat' first | ((first | refine Qz ?_ | refine Qy ?_) <;> conv => whnf) | (refine WB.tt ?_; conv => whnf) | (refine WB.ff ?_; conv => whnf)
      rw [← oend (by omega)]
      exact Fin.t (.inr rfl) rfl (Fz.G (a0 :: s0) (fun h => h) (fun c h => h) pV bB)
end Go.Ev
end
