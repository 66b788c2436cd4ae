import Derived.Test.YtkbgaadfednjpaaGreatDoorEvU4h
import Derived.Test.YtkbgaadfednjpaaGreatDoorProg
import Derived.Test.YtkbgaadfednjpaaGreatDoorEvU5h
import Derived.Test.YtkbgaadfednjpaaGreatDoorEvU4b
import Derived.Test.YtkbgaadfednjpaaGreatDoorEvUSq
import Derived.Test.YtkbgaadfednjpaaGreatDoorEvUIt
set_option linter.all false
set_option maxHeartbeats 8000000
noncomputable section
namespace Go.Ev
open Go.Proofs
noncomputable def oJ : T RF := (.n (.n (.n (.n (.n (.n (.n (.n .e (aA Tryz.prog 127) .e) (aA Tryz.prog 63) .e) (aA Tryz.prog 31) (.n (.n .e (aA Tryz.prog 159) .e) (aA Tryz.prog 95) .e)) none (.n (.n (.n .e (aA Tryz.prog 143) .e) (aA Tryz.prog 79) .e) (aA Tryz.prog 47) (.n .e (aA Tryz.prog 111) .e))) none (.n (.n (.n (.n .e (aA Tryz.prog 135) .e) (aA Tryz.prog 71) .e) (aA Tryz.prog 39) (.n .e (aA Tryz.prog 103) .e)) (aA Tryz.prog 23) (.n (.n (.n .e (aA Tryz.prog 151) .e) (aA Tryz.prog 87) .e) (aA Tryz.prog 55) (.n .e (aA Tryz.prog 119) .e)))) none (.n (.n (.n (.n (.n .e (aA Tryz.prog 131) .e) (aA Tryz.prog 67) .e) (aA Tryz.prog 35) (.n .e (aA Tryz.prog 99) .e)) (aA Tryz.prog 19) (.n (.n (.n .e (aA Tryz.prog 147) .e) (aA Tryz.prog 83) .e) (aA Tryz.prog 51) (.n .e (aA Tryz.prog 115) .e))) none (.n (.n (.n (.n .e (aA Tryz.prog 139) .e) (aA Tryz.prog 75) .e) (aA Tryz.prog 43) (.n .e (aA Tryz.prog 107) .e)) (aA Tryz.prog 27) (.n (.n (.n .e (aA Tryz.prog 155) .e) (aA Tryz.prog 91) .e) (aA Tryz.prog 59) (.n .e (aA Tryz.prog 123) .e))))) none (.n (.n (.n (.n (.n (.n .e (aA Tryz.prog 129) .e) (aA Tryz.prog 65) .e) (aA Tryz.prog 33) (.n (.n .e (aA Tryz.prog 161) .e) (aA Tryz.prog 97) .e)) none (.n (.n (.n .e (aA Tryz.prog 145) .e) (aA Tryz.prog 81) .e) (aA Tryz.prog 49) (.n .e (aA Tryz.prog 113) .e))) none (.n (.n (.n (.n .e (aA Tryz.prog 137) .e) (aA Tryz.prog 73) .e) (aA Tryz.prog 41) (.n .e (aA Tryz.prog 105) .e)) (aA Tryz.prog 25) (.n (.n (.n .e (aA Tryz.prog 153) .e) (aA Tryz.prog 89) .e) (aA Tryz.prog 57) (.n .e (aA Tryz.prog 121) .e)))) none (.n (.n (.n (.n (.n .e (aA Tryz.prog 133) .e) (aA Tryz.prog 69) .e) (aA Tryz.prog 37) (.n .e (aA Tryz.prog 101) .e)) (aA Tryz.prog 21) (.n (.n (.n .e (aA Tryz.prog 149) .e) (aA Tryz.prog 85) .e) (aA Tryz.prog 53) (.n .e (aA Tryz.prog 117) .e))) none (.n (.n (.n (.n .e (aA Tryz.prog 141) .e) (aA Tryz.prog 77) .e) (aA Tryz.prog 45) (.n .e (aA Tryz.prog 109) .e)) (aA Tryz.prog 29) (.n (.n (.n .e (aA Tryz.prog 157) .e) (aA Tryz.prog 93) .e) (aA Tryz.prog 61) (.n .e (aA Tryz.prog 125) .e)))))) none (.n (.n (.n (.n (.n (.n (.n .e (aA Tryz.prog 128) .e) (aA Tryz.prog 64) .e) (aA Tryz.prog 32) (.n (.n .e (aA Tryz.prog 160) .e) (aA Tryz.prog 96) .e)) none (.n (.n (.n .e (aA Tryz.prog 144) .e) (aA Tryz.prog 80) .e) (aA Tryz.prog 48) (.n .e (aA Tryz.prog 112) .e))) none (.n (.n (.n (.n .e (aA Tryz.prog 136) .e) (aA Tryz.prog 72) .e) (aA Tryz.prog 40) (.n .e (aA Tryz.prog 104) .e)) (aA Tryz.prog 24) (.n (.n (.n .e (aA Tryz.prog 152) .e) (aA Tryz.prog 88) .e) (aA Tryz.prog 56) (.n .e (aA Tryz.prog 120) .e)))) none (.n (.n (.n (.n (.n .e (aA Tryz.prog 132) .e) (aA Tryz.prog 68) .e) (aA Tryz.prog 36) (.n .e (aA Tryz.prog 100) .e)) (aA Tryz.prog 20) (.n (.n (.n .e (aA Tryz.prog 148) .e) (aA Tryz.prog 84) .e) (aA Tryz.prog 52) (.n .e (aA Tryz.prog 116) .e))) none (.n (.n (.n (.n .e (aA Tryz.prog 140) .e) (aA Tryz.prog 76) .e) (aA Tryz.prog 44) (.n .e (aA Tryz.prog 108) .e)) (aA Tryz.prog 28) (.n (.n (.n .e (aA Tryz.prog 156) .e) (aA Tryz.prog 92) .e) (aA Tryz.prog 60) (.n .e (aA Tryz.prog 124) .e))))) none (.n (.n (.n (.n (.n (.n .e (aA Tryz.prog 130) .e) (aA Tryz.prog 66) .e) (aA Tryz.prog 34) (.n .e (aA Tryz.prog 98) .e)) none (.n (.n (.n .e (aA Tryz.prog 146) .e) (aA Tryz.prog 82) .e) (aA Tryz.prog 50) (.n .e (aA Tryz.prog 114) .e))) none (.n (.n (.n (.n .e (aA Tryz.prog 138) .e) (aA Tryz.prog 74) .e) (aA Tryz.prog 42) (.n .e (aA Tryz.prog 106) .e)) (aA Tryz.prog 26) (.n (.n (.n .e (aA Tryz.prog 154) .e) (aA Tryz.prog 90) .e) (aA Tryz.prog 58) (.n .e (aA Tryz.prog 122) .e)))) none (.n (.n (.n (.n (.n .e (aA Tryz.prog 134) .e) (aA Tryz.prog 70) .e) (aA Tryz.prog 38) (.n .e (aA Tryz.prog 102) .e)) (aA Tryz.prog 22) (.n (.n (.n .e (aA Tryz.prog 150) .e) (aA Tryz.prog 86) .e) (aA Tryz.prog 54) (.n .e (aA Tryz.prog 118) .e))) none (.n (.n (.n (.n .e (aA Tryz.prog 142) .e) (aA Tryz.prog 78) .e) (aA Tryz.prog 46) (.n .e (aA Tryz.prog 110) .e)) (aA Tryz.prog 30) (.n (.n (.n .e (aA Tryz.prog 158) .e) (aA Tryz.prog 94) .e) (aA Tryz.prog 62) (.n .e (aA Tryz.prog 126) .e)))))))
set_option maxRecDepth 100000 in
theorem gO : FPok Tryz.prog oJ := FPok.of (TabOk.n TabOk.no (TabOk.n TabOk.no (TabOk.n TabOk.no (TabOk.n TabOk.no (TabOk.n TabOk.no (TabOk.n TabOk.at (TabOk.n TabOk.at (TabOk.n TabOk.at TabOk.e TabOk.e) TabOk.e) (TabOk.n TabOk.at (TabOk.n TabOk.at TabOk.e TabOk.e) TabOk.e)) (TabOk.n TabOk.at (TabOk.n TabOk.at (TabOk.n TabOk.at TabOk.e TabOk.e) TabOk.e) (TabOk.n TabOk.at TabOk.e TabOk.e))) (TabOk.n TabOk.at (TabOk.n TabOk.at (TabOk.n TabOk.at (TabOk.n TabOk.at TabOk.e TabOk.e) TabOk.e) (TabOk.n TabOk.at TabOk.e TabOk.e)) (TabOk.n TabOk.at (TabOk.n TabOk.at (TabOk.n TabOk.at TabOk.e TabOk.e) TabOk.e) (TabOk.n TabOk.at TabOk.e TabOk.e)))) (TabOk.n TabOk.no (TabOk.n TabOk.at (TabOk.n TabOk.at (TabOk.n TabOk.at (TabOk.n TabOk.at TabOk.e TabOk.e) TabOk.e) (TabOk.n TabOk.at TabOk.e TabOk.e)) (TabOk.n TabOk.at (TabOk.n TabOk.at (TabOk.n TabOk.at TabOk.e TabOk.e) TabOk.e) (TabOk.n TabOk.at TabOk.e TabOk.e))) (TabOk.n TabOk.at (TabOk.n TabOk.at (TabOk.n TabOk.at (TabOk.n TabOk.at TabOk.e TabOk.e) TabOk.e) (TabOk.n TabOk.at TabOk.e TabOk.e)) (TabOk.n TabOk.at (TabOk.n TabOk.at (TabOk.n TabOk.at TabOk.e TabOk.e) TabOk.e) (TabOk.n TabOk.at TabOk.e TabOk.e))))) (TabOk.n TabOk.no (TabOk.n TabOk.no (TabOk.n TabOk.no (TabOk.n TabOk.at (TabOk.n TabOk.at (TabOk.n TabOk.at TabOk.e TabOk.e) TabOk.e) (TabOk.n TabOk.at (TabOk.n TabOk.at TabOk.e TabOk.e) TabOk.e)) (TabOk.n TabOk.at (TabOk.n TabOk.at (TabOk.n TabOk.at TabOk.e TabOk.e) TabOk.e) (TabOk.n TabOk.at TabOk.e TabOk.e))) (TabOk.n TabOk.at (TabOk.n TabOk.at (TabOk.n TabOk.at (TabOk.n TabOk.at TabOk.e TabOk.e) TabOk.e) (TabOk.n TabOk.at TabOk.e TabOk.e)) (TabOk.n TabOk.at (TabOk.n TabOk.at (TabOk.n TabOk.at TabOk.e TabOk.e) TabOk.e) (TabOk.n TabOk.at TabOk.e TabOk.e)))) (TabOk.n TabOk.no (TabOk.n TabOk.at (TabOk.n TabOk.at (TabOk.n TabOk.at (TabOk.n TabOk.at TabOk.e TabOk.e) TabOk.e) (TabOk.n TabOk.at TabOk.e TabOk.e)) (TabOk.n TabOk.at (TabOk.n TabOk.at (TabOk.n TabOk.at TabOk.e TabOk.e) TabOk.e) (TabOk.n TabOk.at TabOk.e TabOk.e))) (TabOk.n TabOk.at (TabOk.n TabOk.at (TabOk.n TabOk.at (TabOk.n TabOk.at TabOk.e TabOk.e) TabOk.e) (TabOk.n TabOk.at TabOk.e TabOk.e)) (TabOk.n TabOk.at (TabOk.n TabOk.at (TabOk.n TabOk.at TabOk.e TabOk.e) TabOk.e) (TabOk.n TabOk.at TabOk.e TabOk.e)))))) (TabOk.n TabOk.no (TabOk.n TabOk.no (TabOk.n TabOk.no (TabOk.n TabOk.no (TabOk.n TabOk.at (TabOk.n TabOk.at (TabOk.n TabOk.at TabOk.e TabOk.e) TabOk.e) (TabOk.n TabOk.at (TabOk.n TabOk.at TabOk.e TabOk.e) TabOk.e)) (TabOk.n TabOk.at (TabOk.n TabOk.at (TabOk.n TabOk.at TabOk.e TabOk.e) TabOk.e) (TabOk.n TabOk.at TabOk.e TabOk.e))) (TabOk.n TabOk.at (TabOk.n TabOk.at (TabOk.n TabOk.at (TabOk.n TabOk.at TabOk.e TabOk.e) TabOk.e) (TabOk.n TabOk.at TabOk.e TabOk.e)) (TabOk.n TabOk.at (TabOk.n TabOk.at (TabOk.n TabOk.at TabOk.e TabOk.e) TabOk.e) (TabOk.n TabOk.at TabOk.e TabOk.e)))) (TabOk.n TabOk.no (TabOk.n TabOk.at (TabOk.n TabOk.at (TabOk.n TabOk.at (TabOk.n TabOk.at TabOk.e TabOk.e) TabOk.e) (TabOk.n TabOk.at TabOk.e TabOk.e)) (TabOk.n TabOk.at (TabOk.n TabOk.at (TabOk.n TabOk.at TabOk.e TabOk.e) TabOk.e) (TabOk.n TabOk.at TabOk.e TabOk.e))) (TabOk.n TabOk.at (TabOk.n TabOk.at (TabOk.n TabOk.at (TabOk.n TabOk.at TabOk.e TabOk.e) TabOk.e) (TabOk.n TabOk.at TabOk.e TabOk.e)) (TabOk.n TabOk.at (TabOk.n TabOk.at (TabOk.n TabOk.at TabOk.e TabOk.e) TabOk.e) (TabOk.n TabOk.at TabOk.e TabOk.e))))) (TabOk.n TabOk.no (TabOk.n TabOk.no (TabOk.n TabOk.no (TabOk.n TabOk.at (TabOk.n TabOk.at (TabOk.n TabOk.at TabOk.e TabOk.e) TabOk.e) (TabOk.n TabOk.at TabOk.e TabOk.e)) (TabOk.n TabOk.at (TabOk.n TabOk.at (TabOk.n TabOk.at TabOk.e TabOk.e) TabOk.e) (TabOk.n TabOk.at TabOk.e TabOk.e))) (TabOk.n TabOk.at (TabOk.n TabOk.at (TabOk.n TabOk.at (TabOk.n TabOk.at TabOk.e TabOk.e) TabOk.e) (TabOk.n TabOk.at TabOk.e TabOk.e)) (TabOk.n TabOk.at (TabOk.n TabOk.at (TabOk.n TabOk.at TabOk.e TabOk.e) TabOk.e) (TabOk.n TabOk.at TabOk.e TabOk.e)))) (TabOk.n TabOk.no (TabOk.n TabOk.at (TabOk.n TabOk.at (TabOk.n TabOk.at (TabOk.n TabOk.at TabOk.e TabOk.e) TabOk.e) (TabOk.n TabOk.at TabOk.e TabOk.e)) (TabOk.n TabOk.at (TabOk.n TabOk.at (TabOk.n TabOk.at TabOk.e TabOk.e) TabOk.e) (TabOk.n TabOk.at TabOk.e TabOk.e))) (TabOk.n TabOk.at (TabOk.n TabOk.at (TabOk.n TabOk.at (TabOk.n TabOk.at TabOk.e TabOk.e) TabOk.e) (TabOk.n TabOk.at TabOk.e TabOk.e)) (TabOk.n TabOk.at (TabOk.n TabOk.at (TabOk.n TabOk.at TabOk.e TabOk.e) TabOk.e) (TabOk.n TabOk.at TabOk.e TabOk.e)))))))
set_option maxRecDepth 100000
def fT (r p : Nat) : List (Int × Int) := (List.range r).flatMap fun (i : Nat) => (List.range p).map fun (j : Nat) => ((i : Int), (j : Int))
def kI (r p : Int) : List D := [.ag [.any, .i .i64 r, .i .i64 p, .any, .any, .any, .any, .any, .any]]
def iV : Pos := p104
set_option maxRecDepth 1000000
theorem HW : dW Tryz.prog oJ 100000 iV (kI (.ofNat 1) (.ofNat 1)) = some (.lst 2 (aD bC (fT 1 1))) := by kernel_rfl
theorem Ja : dW Tryz.prog oJ 100000 iV (kI (.ofNat 1) (.ofNat 2)) = some (.lst 2 (aD bC (fT 1 2))) := by kernel_rfl
theorem KD : dW Tryz.prog oJ 100000 iV (kI (.ofNat 1) (.ofNat 3)) = some (.lst 2 (aD bC (fT 1 3))) := by kernel_rfl
theorem KS : dW Tryz.prog oJ 100000 iV (kI (.ofNat 1) (.ofNat 4)) = some (.lst 2 (aD bC (fT 1 4))) := by kernel_rfl
theorem HY : dW Tryz.prog oJ 100000 iV (kI (.ofNat 1) (.ofNat 5)) = some (.lst 2 (aD bC (fT 1 5))) := by kernel_rfl
theorem Ki : dW Tryz.prog oJ 100000 iV (kI (.ofNat 2) (.ofNat 1)) = some (.lst 2 (aD bC (fT 2 1))) := by kernel_rfl
theorem HC : dW Tryz.prog oJ 100000 iV (kI (.ofNat 2) (.ofNat 2)) = some (.lst 2 (aD bC (fT 2 2))) := by kernel_rfl
theorem Jy : dW Tryz.prog oJ 100000 iV (kI (.ofNat 2) (.ofNat 3)) = some (.lst 2 (aD bC (fT 2 3))) := by kernel_rfl
theorem Ln : dW Tryz.prog oJ 100000 iV (kI (.ofNat 2) (.ofNat 4)) = some (.lst 2 (aD bC (fT 2 4))) := by kernel_rfl
theorem Jb : dW Tryz.prog oJ 100000 iV (kI (.ofNat 2) (.ofNat 5)) = some (.lst 2 (aD bC (fT 2 5))) := by kernel_rfl
theorem Jm : dW Tryz.prog oJ 100000 iV (kI (.ofNat 3) (.ofNat 1)) = some (.lst 2 (aD bC (fT 3 1))) := by kernel_rfl
theorem KJ : dW Tryz.prog oJ 100000 iV (kI (.ofNat 3) (.ofNat 2)) = some (.lst 2 (aD bC (fT 3 2))) := by kernel_rfl
theorem Kk : dW Tryz.prog oJ 100000 iV (kI (.ofNat 3) (.ofNat 3)) = some (.lst 2 (aD bC (fT 3 3))) := by kernel_rfl
theorem IF : dW Tryz.prog oJ 100000 iV (kI (.ofNat 3) (.ofNat 4)) = some (.lst 2 (aD bC (fT 3 4))) := by kernel_rfl
theorem KH : dW Tryz.prog oJ 100000 iV (kI (.ofNat 3) (.ofNat 5)) = some (.lst 2 (aD bC (fT 3 5))) := by kernel_rfl
theorem Cz (b : Bh) (V : VW b) : PureF Tryz.prog p104.ix [.ag (dR b)] (.lst 2 (aD bC (fT b.rws.toNat b.pls.toNat))) := by
  have q1 := V.rws
  have q2 := V.pls
  have key : ∀ r p : Nat, b.rws = .ofNat r → b.pls = .ofNat p → dW Tryz.prog oJ 100000 iV (kI (.ofNat r) (.ofNat p)) = some (.lst 2 (aD bC (fT r p))) → PureF Tryz.prog p104.ix [.ag (dR b)] (.lst 2 (aD bC (fT b.rws.toNat b.pls.toNat))) := fun r p h1 h2 h => by
    have h3 := PureF.mem gO (f := iV) (ds := [.ag (dR b)]) h (.cons (.ag (.cons .any (.cons (.i h1) (.cons (.i h2) (.cons .any (.cons .any (.cons .any (.cons .any (.cons .any (.cons .any .nil)))))))))) .nil)
    rw [h1, h2]
    exact h3
  rcases (show b.rws = 1 ∨ b.rws = 2 ∨ b.rws = 3 by omega) with h1 | h1 | h1 <;> rcases (show b.pls = 1 ∨ b.pls = 2 ∨ b.pls = 3 ∨ b.pls = 4 ∨ b.pls = 5 by omega) with h2 | h2 | h2 | h2 | h2
  · exact key 1 1 h1 h2 HW
  · exact key 1 2 h1 h2 Ja
  · exact key 1 3 h1 h2 KD
  · exact key 1 4 h1 h2 KS
  · exact key 1 5 h1 h2 HY
  · exact key 2 1 h1 h2 Ki
  · exact key 2 2 h1 h2 HC
  · exact key 2 3 h1 h2 Jy
  · exact key 2 4 h1 h2 Ln
  · exact key 2 5 h1 h2 Jb
  · exact key 3 1 h1 h2 Jm
  · exact key 3 2 h1 h2 KJ
  · exact key 3 3 h1 h2 Kk
  · exact key 3 4 h1 h2 IF
  · exact key 3 5 h1 h2 KH
set_option maxRecDepth 100000
theorem EG {b : Bh} (V : VW b) : ∀ q ∈ fT b.rws.toNat b.pls.toNat, dL b q = true := fun q hq => by
  obtain ⟨i, hi, hq⟩ := List.mem_flatMap.1 hq
  obtain ⟨j, hj, rfl⟩ := List.mem_map.1 hq
  exact IA (List.mem_range.1 hi) (List.mem_range.1 hj)
theorem CL {b : Bh} (V : VW b) : (fT b.rws.toNat b.pls.toNat).length ≤ 50 := by
  have q1 := V.rws
  have q2 := V.pls
  rcases (show b.rws = 1 ∨ b.rws = 2 ∨ b.rws = 3 by omega) with h1 | h1 | h1 <;> rcases (show b.pls = 1 ∨ b.pls = 2 ∨ b.pls = 3 ∨ b.pls = 4 ∨ b.pls = 5 by omega) with h2 | h2 | h2 | h2 | h2 <;> rw [h1, h2] <;> decide
theorem CI (b : Bh) (L : List (List Int)) (l1 : b.face.length ≤ 1000) (l2 : b.sun.length ≤ 1000) (l3 : b.winds.length ≤ 1000) (l6 : ∀ w ∈ b.winds, w.length ≤ 1000) (h1 : L.length ≤ 1000) (h2 : ∀ w ∈ L, w.length ≤ 1000) (hb : i64 b.last) (he : qO b (nJ b L) (dJ b) ≠ 0) : PureF Tryz.prog p43.ix [.ag (dR b), .lst 1 (aD eO L)] (.tp [.ag (Na 0 0), .i .i64 (qO b (nJ b L) (dJ b))]) := by
  have cP := AN b L hb h1 h2
  have cS := As b (nJ b L) l1 l2 l3 l6
  have e1 : pZ b (nJ b L) (dJ b) = Gb := if_neg he
  rw [e1] at cS
  refine PureF.run Lj (by simp) (by simp [aO, cZ, Pu, aM, aG]) ?_; conv => whnf
  repeat' first | ((first | refine Qz ?_ | refine Qf (cP) ?_ | refine Qf (cS) ?_ | with_reducible (first | refine Qm ?_ | refine Qn ?_ | refine Qo ?_ | refine Qp ?_ | refine WB.nt ?_ | refine WB.nf ?_ | refine WB.dec (fun h => ?_) (fun h => ?_) | refine WB.ndec (fun h => ?_) (fun h => ?_)) | refine WB.mk (fun h => ?_) (fun h => ?_)) <;> conv => whnf) | (refine WB.tt ?_; conv => whnf) | (refine WB.ff ?_; conv => whnf)
  exact ⟨.inr rfl, _, rfl, .pu ⟨iY 0 0, trivial, trivial⟩⟩
def IP (b : Bh) (S : Nat → Nat → Int) : List D := NV b S (fT b.rws.toNat b.pls.toNat) (fun x => x.good) 0 (b.last + 1).toNat
theorem CH (b : Bh) (L : List (List Int)) (l1 : b.face.length ≤ 1000) (l2 : b.sun.length ≤ 1000) (l3 : b.winds.length ≤ 1000) (l6 : ∀ w ∈ b.winds, w.length ≤ 1000) (h1 : L.length ≤ 1000) (h2 : ∀ w ∈ L, w.length ≤ 1000) (hf : aR b = 0) (hp : nJ b L = true) (hh : dJ b = true) : PureF Tryz.prog p43.ix [.ag (dR b), .lst 1 (aD eO L)] (.tp [.ag (IP b (EX L)), .i .i64 0]) := by
  have Z := dM hf
  have V := Z.v
  have hv := V.last
  have hr := V.rws
  have cP := uR b L (by omega) h1 h2
  have cS := As b true l1 l2 l3 l6
  have e2 : qO b true (dJ b) = 0 := by rw [hh]; exact Ik hf
  have e1 : pZ b true (dJ b) = dR b := if_pos e2
  rw [e1, e2] at cS
  rw [hp] at cP
  obtain ⟨p1, p2⟩ := uE.1 hp
  have cC := uO L (by omega) (fun w hw => by have := (p2 w hw).1; omega)
  have hne := ED hh
  have cL := Cz b V
  have cB := Kr b V (EX L) KOk.good (fT b.rws.toNat b.pls.toNat) (EG V) (by have := Z.l4; omega) (CL V) 0 (b.last + 1).toNat b.last (by omega) (by omega) l6 (by have := Z.l5; omega) hne
  have cB : PureF Tryz.prog p102.ix [.ag (dR b), .ag (kG (EX L)), .ag (Bw p105 (fT b.rws.toNat b.pls.toNat) 0 b.last)] (.ag (IP b (EX L))) := cB
  refine PureF.run Lj (by simp) (by simp [aO, cZ, Pu, aM, aG]) ?_; conv => whnf
  repeat' first | ((first | refine Qz ?_ | refine Qf (cP) ?_ | refine Qf (cS) ?_ | refine Qf (cC) ?_ | refine Qf (cL) ?_ | refine Qf (cB) ?_ | with_reducible (first | refine Qm ?_ | refine Qn ?_ | refine Qo ?_ | refine Qp ?_ | refine WB.nt ?_ | refine WB.nf ?_ | refine WB.dec (fun h => ?_) (fun h => ?_) | refine WB.ndec (fun h => ?_) (fun h => ?_)) | refine WB.mk (fun h => ?_) (fun h => ?_)) <;> conv => whnf) | (refine WB.tt ?_; conv => whnf) | (refine WB.ff ?_; conv => whnf)
  exact ⟨.inr rfl, _, rfl, .pu ⟨⟨trivial, trivial, trivial⟩, trivial, trivial⟩⟩
theorem BA (l : List (List Hr)) : cZ (aD nC l) := fK jA l
theorem Bu (l : List Hr) : cZ (aD sY l) := fK Gr l
set_option maxRecDepth 1000000
set_option maxRecDepth 100000
theorem FitP.spot {ps : List (Bool × List CK)} {ds : List D} (h : FitP ((true, [.i .i64, .i .i64]) :: ps) ds) : ∃ (p : Int × Int) (ds' : List D), ds = .ag (bC p) :: ds' ∧ (i64 p.1 ∧ i64 p.2) ∧ FitP ps ds' := by
  unfold FitP at h
  obtain ⟨es, ds', rfl, h1, h2⟩ := h
  simp only [FitL, fC] at h1
  obtain ⟨d, ds, rfl, ⟨n1, rfl, w1⟩, d2, ds2, rfl, ⟨n2, rfl, w2⟩, rfl⟩ := h1
  exact ⟨(n1, n2), ds', rfl, ⟨qL w1, qL w2⟩, h2⟩
section
variable {sl : T D} {ob : T C} {nx : Pos} {lg : Option (T Bool)} {K : X -> Prop} {d : Pos} {a b j : Nat} {x y : RX} {k kk : IntKind}
theorem WSt.shrU (hx : bG sl x = some (.i k (a : Int))) (hy : bG sl y = some (.i kk (j : Int))) (hk : nW k = 64) (hj : j <= 63) (h : ∀ r : Nat, r = a / 2 ^ j -> r <= a -> eC sl ob nx lg d K (.i k (r : Int))) : WSt (.bin d .shr x y) ⟨sl, ob, nx, lg⟩ K := by
 obtain ⟨k2, k3⟩ := bD (h (a / 2 ^ j) rfl (Nat.div_le_self _ _))
 refine ⟨_, ?_, k3⟩
 show gI d .shr x y sl ob nx lg = _
 unfold gI
 rw [hx, hy]
 have hm : oN j (nW k) = j := by
  unfold oN
  rw [hk, Nat.ble_eq_true_of_le (show j <= 64 by omega)]
  rfl
 have hs : Co ((a : Nat) : Int) j = ((a / 2 ^ j : Nat) : Int) := rfl
 show CF k (Co ((a : Nat) : Int) (oN j (nW k))) _ = _
 rw [hm, hs, pA]
 exact k2
theorem WSt.shlU (hx : bG sl x = some (.i .i64 (a : Int))) (hy : bG sl y = some (.i kk (j : Int))) (ha : a * 2 ^ j <= 1000) (hj : j <= 63) (h : eC sl ob nx lg d K (.i .i64 ((a * 2 ^ j : Nat) : Int))) : WSt (.bin d .shl x y) ⟨sl, ob, nx, lg⟩ K := by
 obtain ⟨k2, k3⟩ := bD h
 refine ⟨_, ?_, k3⟩
 show gI d .shl x y sl ob nx lg = _
 unfold gI
 rw [hx, hy]
 have hm : oN j 64 = j := by
  unfold oN
  rw [Nat.ble_eq_true_of_le (show j <= 64 by omega)]
  rfl
 have hs : BE ((a : Nat) : Int) j = ((a * 2 ^ j : Nat) : Int) := rfl
 show gK .i64 (BE ((a : Nat) : Int) (oN j 64)) _ = _
 rw [hm, hs, bE]
 have hw : IntKind.i64.wrap ((a * 2 ^ j : Nat) : Int) = ((a * 2 ^ j : Nat) : Int) := InR.i64 (by omega) (by omega)
 rw [hw]
 exact k2
end
def Ny : List Int -> D
 | [] => .ns
 | a :: l => .lst 1 (ints (a :: l))
theorem Eo (b : Bh) : PureF Tryz.prog p59.ix [.ag (dR b)] (.b (kK b && decide (aR b = 0))) := by
  have cTh := GY b
  refine PureF.run MV (by simp) (by simp [aO, cZ, Pu, aM]) ?_; conv => whnf
  cases hTh : kK b with
  | false =>
    rw [hTh] at cTh
    repeat' first | ((first | refine Qz ?_ | refine Qf (cTh) ?_ | with_reducible (first | refine Qm ?_ | refine Qn ?_ | refine Qo ?_ | refine Qp ?_ | refine WB.nt ?_ | refine WB.nf ?_ | refine WB.dec (fun h => ?_) (fun h => ?_) | refine WB.ndec (fun h => ?_) (fun h => ?_)) | refine WB.mk (fun h => ?_) (fun h => ?_)) <;> conv => whnf) | (refine WB.tt ?_; conv => whnf) | (refine WB.ff ?_; conv => whnf)
    exact Fin.b rfl rfl
  | true =>
  rw [hTh] at cTh
  have F := (Bv hTh).f
  have cF := Ez b F.l1 F.l2 F.l3 F.l6
  by_cases hf : aR b = 0
  · rw [decide_eq_true hf]
    repeat' first | ((first | refine Qz ?_ | refine Qf (cTh) ?_ | refine Qf (cF) ?_ | with_reducible (first | refine Qm ?_ | refine Qn ?_ | refine Qo ?_ | refine Qp ?_ | refine WB.nt ?_ | refine WB.nf ?_ | refine WB.dec (fun h => ?_) (fun h => ?_) | refine WB.ndec (fun h => ?_) (fun h => ?_)) | refine WB.mk (fun h => ?_) (fun h => ?_)) <;> conv => whnf) | (refine WB.tt ?_; conv => whnf) | (refine WB.ff ?_; conv => whnf)
    all_goals first | exact Fin.b rfl rfl | exact Fin.b rfl (by rw [hf]; rfl)
  · rw [decide_eq_false hf]
    repeat' first | ((first | refine Qz ?_ | refine Qf (cTh) ?_ | refine Qf (cF) ?_ | with_reducible (first | refine Qm ?_ | refine Qn ?_ | refine Qo ?_ | refine Qp ?_ | refine WB.nt ?_ | refine WB.nf ?_ | refine WB.dec (fun h => ?_) (fun h => ?_) | refine WB.ndec (fun h => ?_) (fun h => ?_)) | refine WB.mk (fun h => ?_) (fun h => ?_)) <;> conv => whnf) | (refine WB.tt ?_; conv => whnf) | (refine WB.ff ?_; conv => whnf)
    all_goals first | exact Fin.b rfl rfl | exact Fin.b rfl (by rw [decide_eq_false hf]; rfl)
theorem Ek (k : IntKind) (l : List Int) : cZ (Iw k l) := pE.2 fun r hr => by
  obtain ⟨n, _, rfl⟩ := List.mem_map.1 hr
  simp [aO, Pu]
def Ok (l : List (D × Nat)) : List Cell := l.map fun p => Cell.o p.1 p.2
section
variable {sl : T D} {ob : T C} {nx : Pos} {lg : Option (T Bool)} {K : X -> Prop}
end
theorem Fz.whole {B : Pos -> Prop} {ob : T C} {id : Pos} {z st : Nat} {cs : List Cell} {cur : Nat} {es : List (List D)} {n : Nat} (hB : ¬ B id) (h : ob.get id = some (.cells false cs cur)) (hn : n = es.length) (hz : ∀ r ∈ es, r.length = z) (hc : cs = es.flatten.map fun d => Cell.o d st) (hp : cZ es) : Fz B ob (.sl id 0 n st z) (.lst z es) := by
 subst hc
 refine .sl hB h hn.symm hz (fun k d hk => ⟨.o d st, ?_, ?_, rfl⟩) (FzE.of hp)
 ·rw [List.drop_zero, List.getElem?_map, hk]; rfl
 ·show Nat.ble st st = true
  exact Nat.ble_eq_true_of_le (Nat.le_refl _)
def cI (A : List (Int × Nat)) : List Cell := Ok (A.map fun p => (D.i .i64 p.1, p.2))
structure Yns (σ : Type) where
 o1 : σ -> Option C
 o2 : σ -> Option C
 o3 : σ -> Option C
 step : σ -> List Int -> σ
 goes : σ -> List Int -> Bool
def Od (x1 x2 x3 x4 x5 x7 : Option C) : T C := .n (.n (.n .e x4 .e) x2 .e) x1 (.n (.n .e x5 .e) x3 (.n .e x7 .e))
def Oc : C := .cells false [.o (.yl (.i .h)) 0] 1
def Oe (many en : Nat) : C := .cells false [.o (.fn GQ [] [.pl [.i .i64 (many : Int)] 0, .pt (.o (.o .h)) 0 0, .pl [.i .i64 (en : Int)] 0, .pt (.i (.o .h)) 0 0]) 0] 1
def Yns.ob3 {σ : Type} (Z : Yns σ) (s : σ) : T C := Bk (Z.o1 s) (Z.o2 s) (Z.o3 s)
def Yns.ob {σ : Type} (Z : Yns σ) (many en : Nat) (s : σ) (x7 : Option C) : T C := Od (Z.o1 s) (Z.o2 s) (Z.o3 s) (some Oc) (some (Oe many en)) x7
structure YnsOk {σ : Type} (Z : Yns σ) (ok : σ -> Prop) : Prop where
 kp : ∀ s n, 4 <= n -> (∀ c, Z.o1 s = some c -> KpC n c) /\ (∀ c, Z.o2 s = some c -> KpC n c) /\ ∀ c, Z.o3 s = some c -> KpC n c
 nxt : ∀ s S, ok s -> Z.goes s S = true -> ok (Z.step s S)
 rnd : ∀ s S, ok s -> S.length <= 1000 -> RndOk Tryz.prog (.i .h) [Ny S] (Z.ob3 s) (.o (.o .h)) none (.b (Z.goes s S)) (Z.ob3 (Z.step s S)) (.o (.o .h)) none
theorem LgLe.e (L : T Bool) : LgLe (some .e) (some L) := ⟨(by simp), (fun id h => by obtain ⟨b, h⟩ := h; rw [T.get_e] at h; cases h), (fun id h => by have h : (T.e : T Bool).get id = some true := h; rw [T.get_e] at h; cases h)⟩
section
variable {σ : Type} {Z : Yns σ} {ok : σ -> Prop} {many en : Nat}
end
theorem ShC.pre {B : Pos -> Prop} {ob : T C} (l m : List Cell) (cur : Nat) (h : ∀ c ∈ l, Pu c.d) : ShC B ob (.cells false (l ++ m) cur) (.cells false l cur) :=
 .cells fun k c' hc => ⟨c', by rw [List.getElem?_append_left (List.getElem?_eq_some_iff.1 hc).1]; exact hc, fun _ h => h, .pu (h c' (List.mem_of_getElem? hc))⟩
set_option maxRecDepth 1000000
set_option maxRecDepth 100000
def xB (b : Bh) : Bh := ⟨b.last, b.rws, b.pls, b.rch, b.face, b.sun, b.winds, [], b.nts⟩
def yB (b : Bh) : Bh := ⟨b.last, b.rws, b.pls, 0, b.face, b.sun, b.winds, b.brk, b.nts⟩
theorem VW.x {b : Bh} (V : VW b) : VW (xB b) := { V with brk := rfl }
theorem VW.y {b : Bh} (V : VW b) : VW (yB b) := { V with rch := (by show (0 : Int) ≤ 0 ∧ (0 : Int) ≤ 4; omega) }
theorem BH {b : Bh} (V : VW b) (h4 : b.brk.length ≤ 4) (h5 : b.nts.length ≤ 5) : aR b = 0 := by
  have a1 := V.last
  have a2 := V.rws
  have a3 := V.pls
  have hb : AH b = false := by
    cases h : AH b with
    | false => rfl
    | true => have := fW.1 h; omega
  unfold aR
  rw [hb, if_neg (by decide), if_pos (VW.iff.2 V)]
theorem Eb {b : Bh} (V : VW b) (m : Nat) (hw : ∀ w ∈ b.winds, 0 < w.length) : EY (Hm b) (Ck b.winds m b.winds.length) = true := by
  rw [← yK V, tY]
  refine ⟨EP _ _ _, fun i hi => ?_⟩
  have e : (Ck b.winds m b.winds.length).getD i 0 = (b.winds.getD i default).getD (EZ b.winds m i % (b.winds.getD i default).length) 0 := by simp [Ck, List.getD, hi]
  rw [e]
  exact aU (Nat.mod_lt _ (hw _ (aU hi)))
theorem Bs {b : Bh} (V : VW b) : dJ b = true ↔ ∃ t, TruP b t := by
  rw [← Df V]
  constructor
  · intro h
    cases hb : AO b with
    | nil => exact absurd hb h
    | cons t ts => exact ⟨t, (mJ V).1 (by rw [hb]; simp)⟩
  · rintro ⟨t, h⟩ e
    have := (mJ V).2 h
    rw [e] at this; cases this
theorem ER {b : Bh} (V : VW b) (n : Nat) : vI b (Nm b n) = true := by
  rw [yK V]
  exact Eb V n fun w hw => (iM.1 (List.all_eq_true.1 V.wins _ hw)).2.1
theorem Ey {n : Nat} (h : n ≤ 5) : 2 ^ n ≤ 32 := Nat.pow_le_pow_right (show 0 < 2 by decide) h
set_option maxRecDepth 1000000
set_option maxRecDepth 100000
def KL (p : Nat → Bool) (n : Nat) : Option Nat := (List.range n).find? p
theorem vJ {p : Nat → Bool} {n : Nat} (h : ∀ i, i < n → p i = false) : KL p n = none := List.find?_eq_none.2 fun x hx => by rw [h x (List.mem_range.1 hx)]; simp
theorem BU {p : Nat → Bool} {n j : Nat} (h : ∀ i, i < j → p i = false) (hj : j < n) (k : p j = true) : KL p n = some j := by
  unfold KL
  obtain ⟨m, hm⟩ : ∃ m, n = (j + 1) + m := ⟨n - (j + 1), by omega⟩
  rw [hm, List.range_add, List.find?_append, List.range_succ, List.find?_append]
  have h1 : (List.range j).find? p = none := vJ h
  rw [h1, List.find?_cons_of_pos k]; rfl
theorem Jw {p : Nat → Bool} {j : Nat} (h : ∀ i, i < j → p i = false) (k : p j = false) : ∀ i, i < j + 1 → p i = false := fun i hi => by
  by_cases e : i = j
  · subst e; exact k
  · exact h i (by omega)
theorem Ll {B : Pos → Prop} {ob : T C} {d : D} (h : Pu d := by simp [Cell.d, Pu, aO, cZ, aC, aE, aG, aM, gD]; done) : Fz B ob d d := .pu h
theorem WSt.slcT {sl : T D} {ob : T C} {nx : Pos} {lg : Option (T Bool)} {K : X → Prop} {d : Pos} {z h : Nat} {x xh : RX} {es : List (List D)} (hx : bG sl x = some (.lst z es)) (hhi : bG sl xh = some (.i .i64 (h : Int))) (h2 : h ≤ es.length) (k : eC sl ob nx lg d K (.lst z (es.take h))) : WSt (.slc d z x none (some xh) none) ⟨sl, ob, nx, lg⟩ K := by
  obtain ⟨k2, k3⟩ := bD k
  refine ⟨_, ?_, k3⟩
  show rL d z x none (some xh) none sl ob nx lg = _
  unfold rL
  rw [hx]
  have hhi' : ((h : Nat) : Int) = Int.ofNat h := rfl
  have b1 : Nat.ble 0 h = true := Nat.ble_eq_true_of_le (Nat.zero_le _)
  have b2 : Nat.ble h es.length = true := Nat.ble_eq_true_of_le h2
  simp only [tU, hhi, hhi', Nat.beq_refl, cond_true, b1, b2, Bool.and_self, List.drop_zero]
  exact k2
def rH (b : Bh) (n : Nat) : Bh := ⟨b.last, b.rws, b.pls, b.rch, b.face, b.sun, b.winds, b.brk, b.nts.take n⟩
theorem VW.tk {b : Bh} (V : VW b) (n : Nat) : VW (rH b n) := { V with nts := List.all_eq_true.2 fun x hx => List.all_eq_true.1 V.nts x (List.mem_of_mem_take hx) }
def NY (b : Bh) : Nat → List (Int × Int)
  | 0 => b.nts
  | j + 1 => b.nts.take (j + 1)
def wP (b : Bh) : Option Nat := KL (fun n => !dJ (rH b (n + 1))) b.nts.length
def EW (b : Bh) : Int := if aR b = 0 then (match wP b with | none => 0 | some n => (n : Int)) else 0
def Eg (b : Bh) : Int := if aR b = 0 then (match wP b with | none => 7 | some _ => 0) else aR b
set_option maxHeartbeats 2000000 in
theorem ES (b : Bh) (l1 : b.face.length ≤ 1000) (l2 : b.sun.length ≤ 1000) (l3 : b.winds.length ≤ 1000) (l6 : ∀ w ∈ b.winds, w.length ≤ 1000) : PureF Tryz.prog p53.ix [.ag (dR b)] (.tp [.i .i64 (EW b), .i .i64 (Eg b)]) := by
  have cC := zE b l1 l2 l3 l6
  have e1 := aK bC b.nts
  refine PureF.run Nq (by simp) (by simp [aO, cZ, Pu, aM]) ?_; conv => whnf
  by_cases hf : aR b = 0
  rotate_left
  · unfold EW Eg
    rw [if_neg hf, if_neg hf]
    repeat' first | ((first | refine Qz ?_ | refine Qf (cC) ?_ | with_reducible (first | refine Qm ?_ | refine Qn ?_ | refine Qo ?_ | refine Qp ?_ | refine WB.nt ?_ | refine WB.nf ?_ | refine WB.dec (fun h => ?_) (fun h => ?_) | refine WB.ndec (fun h => ?_) (fun h => ?_)) | refine WB.mk (fun h => ?_) (fun h => ?_)) <;> conv => whnf) | (refine WB.tt ?_; conv => whnf) | (refine WB.ff ?_; conv => whnf)
    exact Fin.two (.inr rfl) rfl rfl (.pu trivial) (.pu trivial)
  have Z := dM hf
  have V := Z.v
  have h5 := Z.l5
  unfold EW Eg
  rw [if_pos hf, if_pos hf]
  rw [hf] at cC
  repeat' first | ((first | refine Qz ?_ | refine Qf (cC) ?_ | with_reducible (first | refine Qm ?_ | refine Qn ?_ | refine Qo ?_ | refine Qp ?_ | refine WB.nt ?_ | refine WB.nf ?_ | refine WB.dec (fun h => ?_) (fun h => ?_) | refine WB.ndec (fun h => ?_) (fun h => ?_)) | refine WB.mk (fun h => ?_) (fun h => ?_)) <;> conv => whnf) | (refine WB.tt ?_; conv => whnf) | (refine WB.ff ?_; conv => whnf)
  refine Rn.loopV [(p3, none), (p4, none), (p7, none), (cJ, none), (p18, none), (dO, none), (p20, none), (p21, none), (p22, none), (eS, none), (p24, none), (p25, none), (p26, none), (gU, none), (p28, none), (p29, none), (gQ, none)] (fun j : Nat => [(cJ, some (.i .i64 (j : Int)))]) (fun j : Nat => [(.h, some (.cells false [.o (.i .i64 b.last) 0, .o (.i .i64 b.rws) 0, .o (.i .i64 b.pls) 0, .o (.i .i64 b.rch) 0, .o (.lst 1 (ints b.face)) 0, .o (.lst 1 (ints b.sun)) 0, .o (.lst 1 (aD eO b.winds)) 0, .o (.lst 2 (aD bC b.brk)) 0, .o (.lst 2 (aD bC (NY b j))) 0] 1))]) (fun j : Nat => (.o .h)) (fun j : Nat => j ≤ b.nts.length ∧ ∀ i, i < j → (!dJ (rH b (i + 1))) = false) (fun j : Nat => b.nts.length - j) 0 ?_ ?_ ?_
  · conv => whnf
    (refine X.le.mk ?_ ?_ (Nat.le_refl _) rfl rfl) <;> (repeat' first | exact T.le_e _ | refine T.le_some ?_ rfl ?_ | refine T.le_none ?_ ?_ | refine T.le_ee ?_ ?_)
  rotate_left
  intro xl1 hxl1
  rotate_right
  · exact ⟨Nat.zero_le _, fun i hi => absurd hi (Nat.not_lt_zero _)⟩
  rintro j ⟨hj, hno⟩
  conv => whnf
  repeat' first | ((first | refine Qz ?_ | refine Qy ?_) <;> conv => whnf) | (refine WB.tt ?_; conv => whnf) | (refine WB.ff ?_; conv => whnf)
  refine WB.dec (fun hd2 => ?_) (fun hd2 => ?_) <;> conv => whnf
  · have hlt : j < b.nts.length := by omega
    have cH := qU (rH b (j + 1)) (V.tk _) l6 (by show (b.nts.take (j + 1)).length ≤ 1000; rw [List.length_take]; omega)
    have eT : (aD bC b.nts).take (j + 1) = aD bC (b.nts.take (j + 1)) := List.map_take.symm
    repeat' first | ((first | refine Qz ?_ | refine Qy ?_) <;> conv => whnf) | (refine WB.tt ?_; conv => whnf) | (refine WB.ff ?_; conv => whnf)
    refine WSt.slcT (h := j + 1) (es := aD bC b.nts) (by rfl) (by rfl) (by omega) ?_; conv => whnf
    rw [eT]
    cases k : dJ (rH b (j + 1)) with
    | true =>
      rw [k] at cH
      repeat' first | ((first | refine Qz ?_ | refine Qf (cH) ?_ | with_reducible (first | refine Qm ?_ | refine Qn ?_ | refine Qo ?_ | refine Qp ?_ | refine WB.nt ?_ | refine WB.nf ?_ | refine WB.dec (fun h => ?_) (fun h => ?_) | refine WB.ndec (fun h => ?_) (fun h => ?_)) | refine WB.mk (fun h => ?_) (fun h => ?_)) <;> conv => whnf) | (refine WB.tt ?_; conv => whnf) | (refine WB.ff ?_; conv => whnf)
      refine AgainB.v (j + 1) (by omega) ⟨by omega, Jw hno (by rw [k]; rfl)⟩ (Nat.le_refl _) (by assumption) ?_
      conv => whnf
      refine Shr.of ?_ ?_ rfl rfl
      · (repeat' first | exact Rel.e | refine Rel.some ?_ ?_ ?_ | refine Rel.none ?_ ?_ | refine Rel.ee ?_ ?_)
        all_goals show Fz _ _ _ _
        all_goals first | exact Fq | exact Ll
      · (repeat' first | exact Rel.e | refine Rel.some ?_ ?_ ?_ | refine Rel.none ?_ ?_ | refine Rel.ee ?_ ?_)
        all_goals refine GV ?_
        all_goals first | exact Sq | (refine ShC.same ?_; (repeat' first | exact ShC.nl | refine ShC.cn ?_ ?_) <;> first | exact Fq | exact Ll)
    | false =>
      rw [k] at cH
      have e := BU (p := fun n => !dJ (rH b (n + 1))) hno hlt (by show (!dJ (rH b (j + 1))) = true; rw [k]; rfl)
      have e : wP b = some j := e
      rw [e]
      repeat' first | ((first | refine Qz ?_ | refine Qf (cH) ?_ | with_reducible (first | refine Qm ?_ | refine Qn ?_ | refine Qo ?_ | refine Qp ?_ | refine WB.nt ?_ | refine WB.nf ?_ | refine WB.dec (fun h => ?_) (fun h => ?_) | refine WB.ndec (fun h => ?_) (fun h => ?_)) | refine WB.mk (fun h => ?_) (fun h => ?_)) <;> conv => whnf) | (refine WB.tt ?_; conv => whnf) | (refine WB.ff ?_; conv => whnf)
      exact Fin.two (.inr rfl) rfl rfl (.pu trivial) (.pu trivial)
  · obtain rfl : j = b.nts.length := by omega
    have e := vJ (p := fun n => !dJ (rH b (n + 1))) hno
    have e : wP b = none := e
    rw [e]
    repeat' first | ((first | refine Qz ?_ | refine Qy ?_) <;> conv => whnf) | (refine WB.tt ?_; conv => whnf) | (refine WB.ff ?_; conv => whnf)
    exact Fin.two (.inr rfl) rfl rfl (.pu trivial) (.pu trivial)
set_option maxRecDepth 1000000
def Mc : RC := (.seq (.reg [(.u (.box p2 (.t p1))), (.u (.mv p3 (.k (.b false))))]) (.seq (.seq (.reg [(fJ p6 p2 9), (.u (.cf (some p7) p59 [(.t p6)])), (.u (.un p8 .not (.t p7)))]) (.cond (.t p8) (.seq (.reg [(.u (.cf (some p9) p22 [])), (Mv p3 p9)]) .ret) .skip)) (.seq (.reg [(fJ bQ p2 9), (.u (.cf (some bP) p24 [(.t bQ)])), (.u (.cf (some bM) p53 [(.t bP)])), (Mv bJ bM), (.u (.ext bT (.t bJ) 0)), (.u (.ext bU (.t bJ) 1)), (Mv p4 bT), (Mv p5 bU)]) (.seq (.seq (.reg [(Mv cE p5), (dZ cJ .neq cE 0)]) (.cond (.t cJ) (.seq (.reg [(Mv p18 p5), (dZ dO .eql p18 7), (Mv p20 dO), (.g p20 true (some p21) (.ldn p21 (.t p2) 9)), (.g p20 true (some p22) (.cf (some p22) p73 [(.t p21)])), (.g p20 true (some eS) (.bin eS .eql (.t p22) (.k (.i .i64 0)))), (.u (.pick p24 (.t p20) (.t eS) (.k (.b false)))), (Mv p25 p24), (.g p25 true (some p26) (.cf (some p26) p22 [])), (.u (.pick gU (.t p25) (.t p26) (.k (.b false)))), (Mv p3 gU)]) .ret) .skip)) (.seq (.seq (.reg [(Mv p28 p4), (Fd p29 p2 8), (L1 gQ p29), (.u (.len kO (.t gQ))), (dZ mL .sub kO 1), (.u (.cf (some mZ) p45 [(.t p28), (.k (.i .i64 0)), (.t mL)])), (.u (.un qY .not (.t mZ)))]) (.cond (.t qY) (.seq (.reg [(.u (.mv p3 (.k (.b false))))]) .ret) .skip)) (.seq (.reg [(fJ kJ p2 9), (Mv qT p4), (.u (.cvi qW .u64 (.t qT))), (.u (.bin tK .shl (.k (.i .i64 1)) (.t qW))), (dZ tT .sub tK 1), (.u (.cf (some xX) p74 [(.t kJ), (.t tT)])), (.u (.cf (some tV) p73 [(.t xX)])), (dZ p42 .eql tV 0), (Mv p43 p42), (.g p43 true (some p44) (.ldn p44 (.t p2) 9)), (.g p43 true (some p45) (.mv p45 (.t p4))), (.g p43 true (some rF) (.cvi rF .u64 (.t p45))), (.g p43 true (some xL) (.bin xL .shl (.k (.i .i64 2)) (.t rF))), (.g p43 true (some xW) (.bin xW .sub (.t xL) (.k (.i .i64 1)))), (.g p43 true (some p49) (.cf (some p49) p74 [(.t p44), (.t xW)])), (.g p43 true (some xZ) (.cf (some xZ) p73 [(.t p49)])), (.g p43 true (some AP) (.bin AP .eql (.t xZ) (.k (.i .i64 11)))), (.u (.pick nF (.t p43) (.t AP) (.k (.b false)))), (Mv p53 nF), (.g p53 true (some xM) (.cf (some xM) p22 [])), (.u (.pick yN (.t p53) (.t xM) (.k (.b false)))), (Mv p3 yN)]) .ret))))))
def Mu : List RR := [(.t p3)]
theorem NF : FnOk Tryz.prog p18.ix 55 Mc Mu := ⟨Tryz.f17, aN Tryz.f17, Tryz.func17, by kernel_rfl, by kernel_rfl, by kernel_rfl, by kernel_rfl, by kernel_rfl⟩
set_option maxRecDepth 100000
theorem oM {B : Pos → Prop} {ob : T C} {d : D} (h : Pu d := by simp [Cell.d, Pu, aO, cZ, aC, aE, aG, aM, gD, iY]; done) : Fz B ob d d := .pu h
def Fl (c i : Nat) : Bool := decide (Int.tmod ((c / 2 ^ i : Nat) : Int) 2 = 1)
theorem GG (c i : Nat) : Fl c i = c.testBit i := by
  unfold Fl
  have h : Int.tmod ((c / 2 ^ i : Nat) : Int) 2 = ((c / 2 ^ i % 2 : Nat) : Int) := HH _ 2
  rw [h, Nat.testBit_eq_decide_div_mod_eq, Bool.eq_iff_iff, decide_eq_true_iff, decide_eq_true_iff]
  omega
def vY (ms : List (Int × Int)) (c j : Nat) : List (Int × Int) := ((List.range j).filter (Fl c)).map fun i => ms.getD i default
theorem uK (ms : List (Int × Int)) (c j : Nat) : vY ms c (j + 1) = if Fl c j = true then vY ms c j ++ [ms.getD j default] else vY ms c j := by
  unfold vY
  rw [List.range_succ, List.filter_append, List.map_append]
  cases h : Fl c j <;> simp [h]
theorem EN (ms : List (Int × Int)) (c j : Nat) : (vY ms c j).length ≤ j := by
  unfold vY
  rw [List.length_map]
  have := List.length_filter_le (Fl c) (List.range j)
  rwa [List.length_range] at this
def Fs (b : Bh) (c : Nat) : Bh := ⟨b.last, b.rws, b.pls, b.rch, b.face, b.sun, b.winds, b.brk, vY b.nts c b.nts.length⟩
theorem VW.so {b : Bh} (V : VW b) (c : Nat) : VW (Fs b c) := by
  have hn : (Fs b c).nts.all (fS (Fs b c)) = true := by
    refine List.all_eq_true.2 fun x hx => ?_
    obtain ⟨k, hk, rfl⟩ := List.mem_map.1 hx
    exact List.all_eq_true.1 V.nts _ (aU (List.mem_range.1 (List.mem_filter.1 hk).1))
  exact { V with nts := hn }
set_option maxHeartbeats 4000000 in
theorem yX (b : Bh) (c : Nat) (hc : c ≤ 1000) (hn : b.nts.length ≤ 60) : PureF Tryz.prog p74.ix [.ag (dR b), .i .i64 (c : Int)] (.ag (dR (Fs b c))) := by
  have e1 := aK bC b.nts
  refine PureF.run MH (by simp) (by simp [aO, cZ, Pu, aM]) ?_; conv => whnf
  repeat' first | ((first | refine Qz ?_ | refine Qy ?_) <;> conv => whnf) | (refine WB.tt ?_; conv => whnf) | (refine WB.ff ?_; conv => whnf)
  refine Rn.loopV [(p7, none), (bJ, none), (bQ, none), (bP, none), (bM, none), (bT, none), (bU, none), (cE, none), (cJ, none), (p18, none), (dO, none), (p20, none), (p21, none), (p22, none), (eS, none), (p24, none), (p25, none), (p26, none), (gU, none), (p28, none), (p29, none), (gQ, none), (kO, none), (mL, none)] (fun j : Nat => [(p7, some (.i .i64 (j : Int)))]) (fun j : Nat => [((.i .h), some (.cells false [.o (.i .i64 b.last) 0, .o (.i .i64 b.rws) 0, .o (.i .i64 b.pls) 0, .o (.i .i64 b.rch) 0, .o (.lst 1 (ints b.face)) 0, .o (.lst 1 (ints b.sun)) 0, .o (.lst 1 (aD eO b.winds)) 0, .o (.lst 2 (aD bC b.brk)) 0, .o (AR (.i (.o .h)) 2 (vY b.nts c j)) 0] 1)), ((.i (.o .h)), Bj bC (vY b.nts c j))]) (fun j : Nat => iU (.o (.o .h)) (.o (.i .h)) (vY b.nts c j)) (fun j : Nat => j ≤ b.nts.length) (fun j : Nat => b.nts.length - j) 0 ?_ ?_ ?_
  · conv => whnf
    (refine X.le.mk ?_ ?_ (Nat.le_refl _) rfl rfl) <;> (repeat' first | exact T.le_e _ | refine T.le_some ?_ rfl ?_ | refine T.le_none ?_ ?_ | refine T.le_ee ?_ ?_)
  rotate_left
  intro xl1 hxl1
  rotate_right
  · exact Nat.zero_le _
  intro j hj
  have hj : j ≤ b.nts.length := hj
  have hsc0 := uK b.nts c j
  have hAl := EN b.nts c j
  have hend : j = b.nts.length → vY b.nts c j = vY b.nts c b.nts.length := fun h => by rw [← h]
  generalize hA : vY b.nts c j = A at *
  conv => whnf
  repeat' first | ((first | refine Qz ?_ | refine Qy ?_) <;> conv => whnf) | (refine WB.tt ?_; conv => whnf) | (refine WB.ff ?_; conv => whnf)
  refine WB.dec (fun hd2 => ?_) (fun hd2 => ?_) <;> conv => whnf
  · have hlt : j < b.nts.length := by omega
    repeat' first | ((first | refine Qz ?_ | refine And.intro (InR.u64 (by omega) (by omega)) ?_ | refine Qy ?_) <;> conv => whnf) | (refine WB.tt ?_; conv => whnf) | (refine WB.ff ?_; conv => whnf)
    refine WSt.shrU (k := .i64) (kk := .u64) (a := c) (j := j) (by rfl) (by rfl) (by rfl) (by omega) ?_; intro r1 hr1 hr2; subst hr1; conv => whnf
    repeat' first | ((first | refine Qz ?_ | refine Qy ?_) <;> conv => whnf) | (refine WB.tt ?_; conv => whnf) | (refine WB.ff ?_; conv => whnf)
    refine WB.dec (fun ht => ?_) (fun ht => ?_) <;> conv => whnf
    · have hsc : vY b.nts c (j + 1) = A ++ [b.nts.getD j default] := by rw [hsc0, if_pos (show Fl c j = true from decide_eq_true ht)]
      cases A with
      | nil =>
        repeat' first | ((first | refine Qz ?_ | refine Qy ?_) <;> conv => whnf) | (refine WB.tt ?_; conv => whnf) | (refine WB.ff ?_; conv => whnf)
        refine WSt.app_firstL (r := bC (b.nts.getD j default)) (by rfl) (.inl rfl) (by rfl) (by rfl) (by rfl) (by rfl) ?_; conv => whnf
        repeat' first | ((first | refine Qz ?_ | refine Qy ?_) <;> conv => whnf) | (refine WB.tt ?_; conv => whnf) | (refine WB.ff ?_; conv => whnf)
        refine AgainB.v (j + 1) (by omega) (show j + 1 ≤ b.nts.length by omega) (by show Pos.nat _ ≤ Pos.nat _; simp only [hA, hsc, iU, List.cons_append, List.nil_append] <;> decide) (by assumption) ?_
        rw [hsc]
        conv => whnf
        refine Shr.of ?_ ?_ rfl rfl
        · (repeat' first | exact Rel.e | refine Rel.some ?_ ?_ ?_ | refine Rel.none ?_ ?_ | refine Rel.ee ?_ ?_)
          all_goals show Fz _ _ _ _
          all_goals first | exact Fq | exact oM
        · (repeat' first | exact Rel.e | refine Rel.some ?_ ?_ ?_ | refine Rel.none ?_ ?_ | refine Rel.ee ?_ ?_)
          all_goals refine GV ?_
          all_goals first | exact ShC.na gD _ | exact Sq | (refine ShC.same ?_; (repeat' first | exact ShC.nl | refine ShC.cn ?_ ?_) <;> first | exact Fq | exact oM)
      | cons a s =>
        have hs5 : s.length + 1 ≤ 1000 := Nat.le_trans hAl (by omega)
        repeat' first | ((first | refine Qz ?_ | refine Qy ?_) <;> conv => whnf) | (refine WB.tt ?_; conv => whnf) | (refine WB.ff ?_; conv => whnf)
        refine WSt.app_oneL (id := (.i (.o .h))) (ds := (aD bC (a :: s)).flatten) (r := bC (b.nts.getD j default)) (by rfl) (by rfl) (by rfl) (by rfl) (by rfl) (by rfl) (by rw [eL (z := 2) AF]; rfl) (by rfl) (by rfl) (by omega) (by rfl) ?_; conv => whnf
        repeat' first | ((first | refine Qz ?_ | refine Qy ?_) <;> conv => whnf) | (refine WB.tt ?_; conv => whnf) | (refine WB.ff ?_; conv => whnf)
        refine AgainB.v (j + 1) (by omega) (show j + 1 ≤ b.nts.length by omega) (by show Pos.nat _ ≤ Pos.nat _; simp only [hA, hsc, iU, List.cons_append, List.nil_append] <;> decide) (by assumption) ?_
        rw [hsc, List.cons_append]
        conv => whnf
        (try rw [hG])
        (try rw [iA])
        refine Shr.of ?_ ?_ rfl rfl
        · (repeat' first | exact Rel.e | refine Rel.some ?_ ?_ ?_ | refine Rel.none ?_ ?_ | refine Rel.ee ?_ ?_)
          all_goals show Fz _ _ _ _
          all_goals first | exact Fq | exact oM
        · (repeat' first | exact Rel.e | refine Rel.some ?_ ?_ ?_ | refine Rel.none ?_ ?_ | refine Rel.ee ?_ ?_)
          all_goals refine GV ?_
          all_goals first | exact ShC.ca gD _ _ | exact Sq | (refine ShC.same ?_; (repeat' first | exact ShC.nl | refine ShC.cn ?_ ?_) <;> first | exact Fq | exact oM)
    · have hsc : vY b.nts c (j + 1) = A := by rw [hsc0, if_neg (show ¬ Fl c j = true from fun h => ht (of_decide_eq_true h))]
      cases A with
      | nil =>
        repeat' first | ((first | refine Qz ?_ | refine Qy ?_) <;> conv => whnf) | (refine WB.tt ?_; conv => whnf) | (refine WB.ff ?_; conv => whnf)
        refine AgainB.v (j + 1) (by omega) (show j + 1 ≤ b.nts.length by omega) (by show Pos.nat _ ≤ Pos.nat _; simp only [hA, hsc, iU, List.cons_append, List.nil_append] <;> decide) (by assumption) ?_
        rw [hsc]
        conv => whnf
        refine Shr.of ?_ ?_ rfl rfl
        · (repeat' first | exact Rel.e | refine Rel.some ?_ ?_ ?_ | refine Rel.none ?_ ?_ | refine Rel.ee ?_ ?_)
          all_goals show Fz _ _ _ _
          all_goals first | exact Fq | exact oM
        · (repeat' first | exact Rel.e | refine Rel.some ?_ ?_ ?_ | refine Rel.none ?_ ?_ | refine Rel.ee ?_ ?_)
          all_goals refine GV ?_
          all_goals first | exact Sq | (refine ShC.same ?_; (repeat' first | exact ShC.nl | refine ShC.cn ?_ ?_) <;> first | exact Fq | exact oM)
      | cons a s =>
        repeat' first | ((first | refine Qz ?_ | refine Qy ?_) <;> conv => whnf) | (refine WB.tt ?_; conv => whnf) | (refine WB.ff ?_; conv => whnf)
        refine AgainB.v (j + 1) (by omega) (show j + 1 ≤ b.nts.length by omega) (by show Pos.nat _ ≤ Pos.nat _; simp only [hA, hsc, iU, List.cons_append, List.nil_append] <;> decide) (by assumption) ?_
        rw [hsc]
        conv => whnf
        refine Shr.of ?_ ?_ rfl rfl
        · (repeat' first | exact Rel.e | refine Rel.some ?_ ?_ ?_ | refine Rel.none ?_ ?_ | refine Rel.ee ?_ ?_)
          all_goals show Fz _ _ _ _
          all_goals first | exact Fq | exact oM
        · (repeat' first | exact Rel.e | refine Rel.some ?_ ?_ ?_ | refine Rel.none ?_ ?_ | refine Rel.ee ?_ ?_)
          all_goals refine GV ?_
          all_goals first | exact ShC.G gD a s | exact Sq | (refine ShC.same ?_; (repeat' first | exact ShC.nl | refine ShC.cn ?_ ?_) <;> first | exact Fq | exact oM)
  · have hE := hend (by omega)
    have eR : Fs b c = ⟨b.last, b.rws, b.pls, b.rch, b.face, b.sun, b.winds, b.brk, A⟩ := by unfold Fs; rw [← hE]
    rw [eR]
    cases A with
    | nil =>
      repeat' first | ((first | refine Qz ?_ | refine Qy ?_) <;> conv => whnf) | (refine WB.tt ?_; conv => whnf) | (refine WB.ff ?_; conv => whnf)
      exact ⟨.inr rfl, _, rfl, .ag (.cons (.pu trivial) (.cons (.pu trivial) (.cons (.pu trivial) (.cons (.pu trivial) (.cons (.pu (aC _)) (.cons (.pu (aC _)) (.cons (.pu (aG _)) (.cons (.pu (aE _)) (.cons .ns .nil)))))))))⟩
    | cons a s =>
      repeat' first | ((first | refine Qz ?_ | refine Qy ?_) <;> conv => whnf) | (refine WB.tt ?_; conv => whnf) | (refine WB.ff ?_; conv => whnf)
      exact ⟨.inr rfl, _, rfl, .ag (.cons (.pu trivial) (.cons (.pu trivial) (.cons (.pu trivial) (.cons (.pu trivial) (.cons (.pu (aC _)) (.cons (.pu (aC _)) (.cons (.pu (aG _)) (.cons (.pu (aE _)) (.cons (Fz.G (a :: s) (fun h => h) (fun c h => h) AF gD) .nil)))))))))⟩
def vP (b : Bh) (j : Nat) : List (List Int) := (List.range j).map fun _ => b.face
theorem Cw (b : Bh) (j : Nat) : vP b (j + 1) = vP b j ++ [b.face] := by
  unfold vP; rw [List.range_succ, List.map_append]; rfl
theorem pD (b : Bh) (j : Nat) : (vP b j).length = j := by simp [vP]
theorem GW {b : Bh} (V : VW b) : nJ b (vP b (b.last + 1).toNat) = true := by
  have hv := V.last
  refine uE.2 ⟨by rw [pD]; omega, fun w hw => ?_⟩
  obtain ⟨_, _, rfl⟩ := List.mem_map.1 hw
  exact ⟨V.facl, V.face⟩
set_option maxHeartbeats 4000000 in
theorem lG (b : Bh) (F : ThF b) (hf : aR b = 0) : PureF Tryz.prog p73.ix [.ag (dR b)] (.i .i64 (if dJ b = true then 0 else 11)) := by
  have Z := dM hf
  have V := Z.v
  have hv := V.last
  have hr := V.rws
  have hfl := V.facl
  have cB := zP b F.l1 F.l2 F.l3 F.l4 F.l5 F.l6
  have cl := tJ b.face (by omega)
  have hp := GW V
  have hl : (vP b (b.last + 1).toNat).length ≤ 1000 := by rw [pD]; omega
  have hw : ∀ w ∈ vP b (b.last + 1).toNat, w.length ≤ 1000 := fun w hw => by
    obtain ⟨_, _, rfl⟩ := List.mem_map.1 hw
    omega
  have cT : ∃ a c, PureF Tryz.prog p43.ix [.ag (dR b), .lst 1 (aD eO (vP b (b.last + 1).toNat))] (.tp [.ag (Na a c), .i .i64 (if dJ b = true then 0 else 11)]) := by
    cases hh : dJ b with
    | true =>
      have := CH b _ F.l1 F.l2 F.l3 F.l6 hl hw hf hp hh
      exact ⟨_, _, this⟩
    | false =>
      have := CI b _ F.l1 F.l2 F.l3 F.l6 hl hw ⟨by omega, by omega⟩ (by rw [hp, hh, Fi hf]; decide)
      rw [hp, hh, Fi hf] at this
      exact ⟨_, _, this⟩
  obtain ⟨x1, x2, cT⟩ := cT
  generalize (if dJ b = true then (0 : Int) else 11) = er at *
  refine PureF.run LL (by simp) (by simp [aO, cZ, Pu, aM]) ?_; conv => whnf
  repeat' first | ((first | refine Qz ?_ | refine Qy ?_) <;> conv => whnf) | (refine WB.tt ?_; conv => whnf) | (refine WB.ff ?_; conv => whnf)
  refine Rn.loopV [(p4, none), (p5, none), (p8, none), (p9, none), (bJ, none), (bQ, none), (bP, none), (bM, none), (bT, none), (bU, none), (cE, none), (cJ, none), (p18, none), (dO, none)] (fun j : Nat => [(p4, some (AR (.i .h) 1 (vP b j))), (p5, some (.i .i64 (j : Int)))]) (fun j : Nat => [((.i .h), Bj eO (vP b j))]) (fun j : Nat => iU (.o .h) (.o (.o .h)) (vP b j)) (fun j : Nat => j ≤ (b.last + 1).toNat) (fun j : Nat => (b.last + 1).toNat - j) 0 ?_ ?_ ?_
  · conv => whnf
    (refine X.le.mk ?_ ?_ (Nat.le_refl _) rfl rfl) <;> (repeat' first | exact T.le_e _ | refine T.le_some ?_ rfl ?_ | refine T.le_none ?_ ?_ | refine T.le_ee ?_ ?_)
  rotate_left
  intro xl2 hxl2
  rotate_right
  · exact Nat.zero_le _
  intro j hj
  have hj : j ≤ (b.last + 1).toNat := hj
  have hsc := Cw b j
  have hAl : (vP b j).length ≤ j := by rw [pD]; exact Nat.le_refl _
  have hend : j = (b.last + 1).toNat → vP b j = vP b (b.last + 1).toNat := fun h => by rw [h]
  have hne : 0 < j → vP b j ≠ [] := fun h e => by have := pD b j; rw [e] at this; simp at this; omega
  generalize hA : vP b j = A at *
  conv => whnf
  repeat' first | ((first | refine Qz ?_ | refine Qy ?_) <;> conv => whnf) | (refine WB.tt ?_; conv => whnf) | (refine WB.ff ?_; conv => whnf)
  refine WB.dec (fun hd2 => ?_) (fun hd2 => ?_) <;> conv => whnf
  · have hlt : j < (b.last + 1).toNat := by omega
    cases A with
    | nil =>
      repeat' first | ((first | refine Qz ?_ | refine Qf (cl) ?_ | refine Qy ?_) <;> conv => whnf) | (refine WB.tt ?_; conv => whnf) | (refine WB.ff ?_; conv => whnf)
      refine WSt.app_first (r := eO b.face) (by rfl) (.inl rfl) (by rfl) (by rfl) (by rfl) (by rfl) ?_; conv => whnf
      repeat' first | ((first | refine Qz ?_ | refine Qy ?_) <;> conv => whnf) | (refine WB.tt ?_; conv => whnf) | (refine WB.ff ?_; conv => whnf)
      refine AgainB.v (j + 1) (by omega) (show j + 1 ≤ (b.last + 1).toNat by omega) (by show Pos.nat _ ≤ Pos.nat _; simp only [hA, hsc, iU, List.cons_append, List.nil_append] <;> decide) (by assumption) ?_
      rw [hsc]
      conv => whnf
      refine Shr.of ?_ ?_ rfl rfl
      · (repeat' first | exact Rel.e | refine Rel.some ?_ ?_ ?_ | refine Rel.none ?_ ?_ | refine Rel.ee ?_ ?_)
        all_goals show Fz _ _ _ _
        all_goals first | exact Fq | exact oM
      · (repeat' first | exact Rel.e | refine Rel.some ?_ ?_ ?_ | refine Rel.none ?_ ?_ | refine Rel.ee ?_ ?_)
        all_goals refine GV ?_
        all_goals first | exact ShC.na AS _ | exact Sq | (refine ShC.same ?_; (repeat' first | exact ShC.nl | refine ShC.cn ?_ ?_) <;> first | exact Fq | exact oM)
    | cons a s =>
      have hs5 : s.length + 1 ≤ 1000 := Nat.le_trans hAl (by omega)
      repeat' first | ((first | refine Qz ?_ | refine Qf (cl) ?_ | refine Qy ?_) <;> conv => whnf) | (refine WB.tt ?_; conv => whnf) | (refine WB.ff ?_; conv => whnf)
      refine WSt.app_one (id := (.i .h)) (ds := (aD eO (a :: s)).flatten) (r := eO b.face) (by rfl) (by rfl) (by rfl) (by rfl) (by rfl) (by rfl) (by rw [eL (z := 1) Gy]; rfl) (by rfl) (by rfl) (by omega) (by rfl) ?_; conv => whnf
      repeat' first | ((first | refine Qz ?_ | refine Qy ?_) <;> conv => whnf) | (refine WB.tt ?_; conv => whnf) | (refine WB.ff ?_; conv => whnf)
      refine AgainB.v (j + 1) (by omega) (show j + 1 ≤ (b.last + 1).toNat by omega) (by show Pos.nat _ ≤ Pos.nat _; simp only [hA, hsc, iU, List.cons_append, List.nil_append] <;> decide) (by assumption) ?_
      rw [hsc, List.cons_append]
      conv => whnf
      (try rw [hG])
      (try rw [iA])
      refine Shr.of ?_ ?_ rfl rfl
      · (repeat' first | exact Rel.e | refine Rel.some ?_ ?_ ?_ | refine Rel.none ?_ ?_ | refine Rel.ee ?_ ?_)
        all_goals show Fz _ _ _ _
        all_goals first | exact Fq | exact oM
      · (repeat' first | exact Rel.e | refine Rel.some ?_ ?_ ?_ | refine Rel.none ?_ ?_ | refine Rel.ee ?_ ?_)
        all_goals refine GV ?_
        all_goals first | exact ShC.ca AS _ _ | exact Sq | (refine ShC.same ?_; (repeat' first | exact ShC.nl | refine ShC.cn ?_ ?_) <;> first | exact Fq | exact oM)
  · have hE := hend (by omega)
    have hn := hne (by omega)
    rw [← hE] at cT
    cases A with
    | nil => exact absurd rfl hn
    | cons a s =>
      repeat' first | ((first | refine Qz ?_ | refine Qf (cB) ?_ | refine Qy ?_) <;> conv => whnf) | (refine WB.tt ?_; conv => whnf) | (refine WB.ff ?_; conv => whnf)
      refine WCall.borrow cT (.cons (.pu (aM b)) (.cons (Fz.G (f := eO) (a :: s) (fun h => h) (fun c h => h) Gy AS) .nil)) ⟨⟨trivial, trivial, trivial⟩, trivial, trivial⟩ ?_
      conv => whnf
      repeat' first | ((first | refine Qz ?_ | refine Qy ?_) <;> conv => whnf) | (refine WB.tt ?_; conv => whnf) | (refine WB.ff ?_; conv => whnf)
      exact Fin.i rfl rfl
theorem uG (ms : List (Int × Int)) (n : Nat) : ∀ j, j ≤ ms.length → vY ms (2 ^ n - 1) j = (ms.take n).take j
  | 0, _ => by unfold vY; rfl
  | j + 1, hj => by
    rw [uK, uG ms n j (by omega), GG, Nat.testBit_two_pow_sub_one]
    by_cases h : j < n
    · rw [decide_eq_true h, if_pos rfl, List.take_take, List.take_take, Nat.min_eq_left (by omega), Nat.min_eq_left (by omega), oY (d := default) (by omega)]
    · rw [decide_eq_false h, if_neg (by decide), List.take_take, List.take_take, Nat.min_eq_right (by omega), Nat.min_eq_right (by omega)]
theorem En {b : Bh} (n : Nat) : Fs b (2 ^ n - 1) = rH b n := by
  unfold Fs rH
  rw [uG _ _ _ (Nat.le_refl _), List.take_of_length_le (by rw [List.length_take]; omega)]
theorem yU {b : Bh} (V : VW b) : dJ (rH b 0) = true :=
  (Bs (V.tk 0)).2 ⟨Nm b 0, (qC (V.tk 0)).1 (by
    unfold EC
    rw [Bool.and_eq_true]
    exact ⟨ER V 0, by show ([] : List (Int × Int)).all _ = true; rfl⟩)⟩
theorem CV (b : Bh) : rH b b.nts.length = b := by unfold rH; rw [List.take_length]
theorem vQ {p : Nat → Bool} {n j : Nat} (h : KL p n = some j) : j < n ∧ p j = true ∧ ∀ i, i < j → p i = false := by
  refine ⟨List.mem_range.1 (List.mem_of_find?_eq_some h), List.find?_some h, fun i hi => ?_⟩
  have := List.find?_range_eq_some.1 h
  have := this.2.2 i hi
  simpa using this
end Go.Ev
end
