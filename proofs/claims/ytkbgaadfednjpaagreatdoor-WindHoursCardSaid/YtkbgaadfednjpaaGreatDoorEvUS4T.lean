import Derived.Test.YtkbgaadfednjpaaGreatDoorEvU4h
import Derived.Test.YtkbgaadfednjpaaGreatDoorProg
import Derived.Test.YtkbgaadfednjpaaGreatDoorEvU5g
import Derived.Test.YtkbgaadfednjpaaGreatDoorEvU4b
import Derived.Test.YtkbgaadfednjpaaGreatDoorEvUSq
import Derived.Test.YtkbgaadfednjpaaGreatDoorEvUIt
import Derived.Test.YtkbgaadfednjpaaGreatDoorEvU4o
set_option linter.all false
set_option maxHeartbeats 8000000
noncomputable section
namespace Go.Ev
open Go.Proofs
noncomputable def oR : T RF := (.n (.n (.n (.n (.n (.n (.n (.n .e (aA Tryz.prog 127) .e) (aA Tryz.prog 63) .e) (aA Tryz.prog 31) (.n (.n .e (aA Tryz.prog 159) .e) (aA Tryz.prog 95) .e)) none (.n (.n (.n .e (aA Tryz.prog 143) .e) (aA Tryz.prog 79) .e) (aA Tryz.prog 47) (.n .e (aA Tryz.prog 111) .e))) none (.n (.n (.n (.n .e (aA Tryz.prog 135) .e) (aA Tryz.prog 71) .e) (aA Tryz.prog 39) (.n .e (aA Tryz.prog 103) .e)) (aA Tryz.prog 23) (.n (.n (.n .e (aA Tryz.prog 151) .e) (aA Tryz.prog 87) .e) (aA Tryz.prog 55) (.n .e (aA Tryz.prog 119) .e)))) none (.n (.n (.n (.n (.n .e (aA Tryz.prog 131) .e) (aA Tryz.prog 67) .e) (aA Tryz.prog 35) (.n .e (aA Tryz.prog 99) .e)) (aA Tryz.prog 19) (.n (.n (.n .e (aA Tryz.prog 147) .e) (aA Tryz.prog 83) .e) (aA Tryz.prog 51) (.n .e (aA Tryz.prog 115) .e))) none (.n (.n (.n (.n .e (aA Tryz.prog 139) .e) (aA Tryz.prog 75) .e) (aA Tryz.prog 43) (.n .e (aA Tryz.prog 107) .e)) (aA Tryz.prog 27) (.n (.n (.n .e (aA Tryz.prog 155) .e) (aA Tryz.prog 91) .e) (aA Tryz.prog 59) (.n .e (aA Tryz.prog 123) .e))))) none (.n (.n (.n (.n (.n (.n .e (aA Tryz.prog 129) .e) (aA Tryz.prog 65) .e) (aA Tryz.prog 33) (.n (.n .e (aA Tryz.prog 161) .e) (aA Tryz.prog 97) .e)) none (.n (.n (.n .e (aA Tryz.prog 145) .e) (aA Tryz.prog 81) .e) (aA Tryz.prog 49) (.n .e (aA Tryz.prog 113) .e))) none (.n (.n (.n (.n .e (aA Tryz.prog 137) .e) (aA Tryz.prog 73) .e) (aA Tryz.prog 41) (.n .e (aA Tryz.prog 105) .e)) (aA Tryz.prog 25) (.n (.n (.n .e (aA Tryz.prog 153) .e) (aA Tryz.prog 89) .e) (aA Tryz.prog 57) (.n .e (aA Tryz.prog 121) .e)))) none (.n (.n (.n (.n (.n .e (aA Tryz.prog 133) .e) (aA Tryz.prog 69) .e) (aA Tryz.prog 37) (.n .e (aA Tryz.prog 101) .e)) (aA Tryz.prog 21) (.n (.n (.n .e (aA Tryz.prog 149) .e) (aA Tryz.prog 85) .e) (aA Tryz.prog 53) (.n .e (aA Tryz.prog 117) .e))) none (.n (.n (.n (.n .e (aA Tryz.prog 141) .e) (aA Tryz.prog 77) .e) (aA Tryz.prog 45) (.n .e (aA Tryz.prog 109) .e)) (aA Tryz.prog 29) (.n (.n (.n .e (aA Tryz.prog 157) .e) (aA Tryz.prog 93) .e) (aA Tryz.prog 61) (.n .e (aA Tryz.prog 125) .e)))))) none (.n (.n (.n (.n (.n (.n (.n .e (aA Tryz.prog 128) .e) (aA Tryz.prog 64) .e) (aA Tryz.prog 32) (.n (.n .e (aA Tryz.prog 160) .e) (aA Tryz.prog 96) .e)) none (.n (.n (.n .e (aA Tryz.prog 144) .e) (aA Tryz.prog 80) .e) (aA Tryz.prog 48) (.n .e (aA Tryz.prog 112) .e))) none (.n (.n (.n (.n .e (aA Tryz.prog 136) .e) (aA Tryz.prog 72) .e) (aA Tryz.prog 40) (.n .e (aA Tryz.prog 104) .e)) (aA Tryz.prog 24) (.n (.n (.n .e (aA Tryz.prog 152) .e) (aA Tryz.prog 88) .e) (aA Tryz.prog 56) (.n .e (aA Tryz.prog 120) .e)))) none (.n (.n (.n (.n (.n .e (aA Tryz.prog 132) .e) (aA Tryz.prog 68) .e) (aA Tryz.prog 36) (.n .e (aA Tryz.prog 100) .e)) (aA Tryz.prog 20) (.n (.n (.n .e (aA Tryz.prog 148) .e) (aA Tryz.prog 84) .e) (aA Tryz.prog 52) (.n .e (aA Tryz.prog 116) .e))) none (.n (.n (.n (.n .e (aA Tryz.prog 140) .e) (aA Tryz.prog 76) .e) (aA Tryz.prog 44) (.n .e (aA Tryz.prog 108) .e)) (aA Tryz.prog 28) (.n (.n (.n .e (aA Tryz.prog 156) .e) (aA Tryz.prog 92) .e) (aA Tryz.prog 60) (.n .e (aA Tryz.prog 124) .e))))) none (.n (.n (.n (.n (.n (.n .e (aA Tryz.prog 130) .e) (aA Tryz.prog 66) .e) (aA Tryz.prog 34) (.n .e (aA Tryz.prog 98) .e)) none (.n (.n (.n .e (aA Tryz.prog 146) .e) (aA Tryz.prog 82) .e) (aA Tryz.prog 50) (.n .e (aA Tryz.prog 114) .e))) none (.n (.n (.n (.n .e (aA Tryz.prog 138) .e) (aA Tryz.prog 74) .e) (aA Tryz.prog 42) (.n .e (aA Tryz.prog 106) .e)) (aA Tryz.prog 26) (.n (.n (.n .e (aA Tryz.prog 154) .e) (aA Tryz.prog 90) .e) (aA Tryz.prog 58) (.n .e (aA Tryz.prog 122) .e)))) none (.n (.n (.n (.n (.n .e (aA Tryz.prog 134) .e) (aA Tryz.prog 70) .e) (aA Tryz.prog 38) (.n .e (aA Tryz.prog 102) .e)) (aA Tryz.prog 22) (.n (.n (.n .e (aA Tryz.prog 150) .e) (aA Tryz.prog 86) .e) (aA Tryz.prog 54) (.n .e (aA Tryz.prog 118) .e))) none (.n (.n (.n (.n .e (aA Tryz.prog 142) .e) (aA Tryz.prog 78) .e) (aA Tryz.prog 46) (.n .e (aA Tryz.prog 110) .e)) (aA Tryz.prog 30) (.n (.n (.n .e (aA Tryz.prog 158) .e) (aA Tryz.prog 94) .e) (aA Tryz.prog 62) (.n .e (aA Tryz.prog 126) .e)))))))
set_option maxRecDepth 100000 in
theorem gO : FPok Tryz.prog oR := FPok.of (TabOk.n TabOk.no (TabOk.n TabOk.no (TabOk.n TabOk.no (TabOk.n TabOk.no (TabOk.n TabOk.no (TabOk.n TabOk.at (TabOk.n TabOk.at (TabOk.n TabOk.at TabOk.e TabOk.e) TabOk.e) (TabOk.n TabOk.at (TabOk.n TabOk.at TabOk.e TabOk.e) TabOk.e)) (TabOk.n TabOk.at (TabOk.n TabOk.at (TabOk.n TabOk.at TabOk.e TabOk.e) TabOk.e) (TabOk.n TabOk.at TabOk.e TabOk.e))) (TabOk.n TabOk.at (TabOk.n TabOk.at (TabOk.n TabOk.at (TabOk.n TabOk.at TabOk.e TabOk.e) TabOk.e) (TabOk.n TabOk.at TabOk.e TabOk.e)) (TabOk.n TabOk.at (TabOk.n TabOk.at (TabOk.n TabOk.at TabOk.e TabOk.e) TabOk.e) (TabOk.n TabOk.at TabOk.e TabOk.e)))) (TabOk.n TabOk.no (TabOk.n TabOk.at (TabOk.n TabOk.at (TabOk.n TabOk.at (TabOk.n TabOk.at TabOk.e TabOk.e) TabOk.e) (TabOk.n TabOk.at TabOk.e TabOk.e)) (TabOk.n TabOk.at (TabOk.n TabOk.at (TabOk.n TabOk.at TabOk.e TabOk.e) TabOk.e) (TabOk.n TabOk.at TabOk.e TabOk.e))) (TabOk.n TabOk.at (TabOk.n TabOk.at (TabOk.n TabOk.at (TabOk.n TabOk.at TabOk.e TabOk.e) TabOk.e) (TabOk.n TabOk.at TabOk.e TabOk.e)) (TabOk.n TabOk.at (TabOk.n TabOk.at (TabOk.n TabOk.at TabOk.e TabOk.e) TabOk.e) (TabOk.n TabOk.at TabOk.e TabOk.e))))) (TabOk.n TabOk.no (TabOk.n TabOk.no (TabOk.n TabOk.no (TabOk.n TabOk.at (TabOk.n TabOk.at (TabOk.n TabOk.at TabOk.e TabOk.e) TabOk.e) (TabOk.n TabOk.at (TabOk.n TabOk.at TabOk.e TabOk.e) TabOk.e)) (TabOk.n TabOk.at (TabOk.n TabOk.at (TabOk.n TabOk.at TabOk.e TabOk.e) TabOk.e) (TabOk.n TabOk.at TabOk.e TabOk.e))) (TabOk.n TabOk.at (TabOk.n TabOk.at (TabOk.n TabOk.at (TabOk.n TabOk.at TabOk.e TabOk.e) TabOk.e) (TabOk.n TabOk.at TabOk.e TabOk.e)) (TabOk.n TabOk.at (TabOk.n TabOk.at (TabOk.n TabOk.at TabOk.e TabOk.e) TabOk.e) (TabOk.n TabOk.at TabOk.e TabOk.e)))) (TabOk.n TabOk.no (TabOk.n TabOk.at (TabOk.n TabOk.at (TabOk.n TabOk.at (TabOk.n TabOk.at TabOk.e TabOk.e) TabOk.e) (TabOk.n TabOk.at TabOk.e TabOk.e)) (TabOk.n TabOk.at (TabOk.n TabOk.at (TabOk.n TabOk.at TabOk.e TabOk.e) TabOk.e) (TabOk.n TabOk.at TabOk.e TabOk.e))) (TabOk.n TabOk.at (TabOk.n TabOk.at (TabOk.n TabOk.at (TabOk.n TabOk.at TabOk.e TabOk.e) TabOk.e) (TabOk.n TabOk.at TabOk.e TabOk.e)) (TabOk.n TabOk.at (TabOk.n TabOk.at (TabOk.n TabOk.at TabOk.e TabOk.e) TabOk.e) (TabOk.n TabOk.at TabOk.e TabOk.e)))))) (TabOk.n TabOk.no (TabOk.n TabOk.no (TabOk.n TabOk.no (TabOk.n TabOk.no (TabOk.n TabOk.at (TabOk.n TabOk.at (TabOk.n TabOk.at TabOk.e TabOk.e) TabOk.e) (TabOk.n TabOk.at (TabOk.n TabOk.at TabOk.e TabOk.e) TabOk.e)) (TabOk.n TabOk.at (TabOk.n TabOk.at (TabOk.n TabOk.at TabOk.e TabOk.e) TabOk.e) (TabOk.n TabOk.at TabOk.e TabOk.e))) (TabOk.n TabOk.at (TabOk.n TabOk.at (TabOk.n TabOk.at (TabOk.n TabOk.at TabOk.e TabOk.e) TabOk.e) (TabOk.n TabOk.at TabOk.e TabOk.e)) (TabOk.n TabOk.at (TabOk.n TabOk.at (TabOk.n TabOk.at TabOk.e TabOk.e) TabOk.e) (TabOk.n TabOk.at TabOk.e TabOk.e)))) (TabOk.n TabOk.no (TabOk.n TabOk.at (TabOk.n TabOk.at (TabOk.n TabOk.at (TabOk.n TabOk.at TabOk.e TabOk.e) TabOk.e) (TabOk.n TabOk.at TabOk.e TabOk.e)) (TabOk.n TabOk.at (TabOk.n TabOk.at (TabOk.n TabOk.at TabOk.e TabOk.e) TabOk.e) (TabOk.n TabOk.at TabOk.e TabOk.e))) (TabOk.n TabOk.at (TabOk.n TabOk.at (TabOk.n TabOk.at (TabOk.n TabOk.at TabOk.e TabOk.e) TabOk.e) (TabOk.n TabOk.at TabOk.e TabOk.e)) (TabOk.n TabOk.at (TabOk.n TabOk.at (TabOk.n TabOk.at TabOk.e TabOk.e) TabOk.e) (TabOk.n TabOk.at TabOk.e TabOk.e))))) (TabOk.n TabOk.no (TabOk.n TabOk.no (TabOk.n TabOk.no (TabOk.n TabOk.at (TabOk.n TabOk.at (TabOk.n TabOk.at TabOk.e TabOk.e) TabOk.e) (TabOk.n TabOk.at TabOk.e TabOk.e)) (TabOk.n TabOk.at (TabOk.n TabOk.at (TabOk.n TabOk.at TabOk.e TabOk.e) TabOk.e) (TabOk.n TabOk.at TabOk.e TabOk.e))) (TabOk.n TabOk.at (TabOk.n TabOk.at (TabOk.n TabOk.at (TabOk.n TabOk.at TabOk.e TabOk.e) TabOk.e) (TabOk.n TabOk.at TabOk.e TabOk.e)) (TabOk.n TabOk.at (TabOk.n TabOk.at (TabOk.n TabOk.at TabOk.e TabOk.e) TabOk.e) (TabOk.n TabOk.at TabOk.e TabOk.e)))) (TabOk.n TabOk.no (TabOk.n TabOk.at (TabOk.n TabOk.at (TabOk.n TabOk.at (TabOk.n TabOk.at TabOk.e TabOk.e) TabOk.e) (TabOk.n TabOk.at TabOk.e TabOk.e)) (TabOk.n TabOk.at (TabOk.n TabOk.at (TabOk.n TabOk.at TabOk.e TabOk.e) TabOk.e) (TabOk.n TabOk.at TabOk.e TabOk.e))) (TabOk.n TabOk.at (TabOk.n TabOk.at (TabOk.n TabOk.at (TabOk.n TabOk.at TabOk.e TabOk.e) TabOk.e) (TabOk.n TabOk.at TabOk.e TabOk.e)) (TabOk.n TabOk.at (TabOk.n TabOk.at (TabOk.n TabOk.at TabOk.e TabOk.e) TabOk.e) (TabOk.n TabOk.at TabOk.e TabOk.e)))))))
set_option maxRecDepth 100000
def cU (r p : Nat) : List (Int × Int) := (List.range r).flatMap fun (i : Nat) => (List.range p).map fun (j : Nat) => ((i : Int), (j : Int))
def kO (r p : Int) : List D := [.ag [.any, .i .i64 r, .i .i64 p, .any, .any, .any, .any, .any, .any]]
def iZ : Pos := p104
set_option maxRecDepth 1000000
theorem If : dW Tryz.prog oR 100000 iZ (kO (.ofNat 1) (.ofNat 1)) = some (.lst 2 (aD bD (cU 1 1))) := by kernel_rfl
theorem Jf : dW Tryz.prog oR 100000 iZ (kO (.ofNat 1) (.ofNat 2)) = some (.lst 2 (aD bD (cU 1 2))) := by kernel_rfl
theorem KI : dW Tryz.prog oR 100000 iZ (kO (.ofNat 1) (.ofNat 3)) = some (.lst 2 (aD bD (cU 1 3))) := by kernel_rfl
theorem KX : dW Tryz.prog oR 100000 iZ (kO (.ofNat 1) (.ofNat 4)) = some (.lst 2 (aD bD (cU 1 4))) := by kernel_rfl
theorem Ih : dW Tryz.prog oR 100000 iZ (kO (.ofNat 1) (.ofNat 5)) = some (.lst 2 (aD bD (cU 1 5))) := by kernel_rfl
theorem Km : dW Tryz.prog oR 100000 iZ (kO (.ofNat 2) (.ofNat 1)) = some (.lst 2 (aD bD (cU 2 1))) := by kernel_rfl
theorem HM : dW Tryz.prog oR 100000 iZ (kO (.ofNat 2) (.ofNat 2)) = some (.lst 2 (aD bD (cU 2 2))) := by kernel_rfl
theorem JD : dW Tryz.prog oR 100000 iZ (kO (.ofNat 2) (.ofNat 3)) = some (.lst 2 (aD bD (cU 2 3))) := by kernel_rfl
theorem Lt : dW Tryz.prog oR 100000 iZ (kO (.ofNat 2) (.ofNat 4)) = some (.lst 2 (aD bD (cU 2 4))) := by kernel_rfl
theorem Jg : dW Tryz.prog oR 100000 iZ (kO (.ofNat 2) (.ofNat 5)) = some (.lst 2 (aD bD (cU 2 5))) := by kernel_rfl
theorem Jr : dW Tryz.prog oR 100000 iZ (kO (.ofNat 3) (.ofNat 1)) = some (.lst 2 (aD bD (cU 3 1))) := by kernel_rfl
theorem KP : dW Tryz.prog oR 100000 iZ (kO (.ofNat 3) (.ofNat 2)) = some (.lst 2 (aD bD (cU 3 2))) := by kernel_rfl
theorem Ko : dW Tryz.prog oR 100000 iZ (kO (.ofNat 3) (.ofNat 3)) = some (.lst 2 (aD bD (cU 3 3))) := by kernel_rfl
theorem IM : dW Tryz.prog oR 100000 iZ (kO (.ofNat 3) (.ofNat 4)) = some (.lst 2 (aD bD (cU 3 4))) := by kernel_rfl
theorem KN : dW Tryz.prog oR 100000 iZ (kO (.ofNat 3) (.ofNat 5)) = some (.lst 2 (aD bD (cU 3 5))) := by kernel_rfl
theorem CR (b : Bh) (V : VW b) : PureF Tryz.prog p104.ix [.ag (eF b)] (.lst 2 (aD bD (cU b.rws.toNat b.pls.toNat))) := by
  have q1 := V.rws
  have q2 := V.pls
  have key : ∀ r p : Nat, b.rws = .ofNat r → b.pls = .ofNat p → dW Tryz.prog oR 100000 iZ (kO (.ofNat r) (.ofNat p)) = some (.lst 2 (aD bD (cU r p))) → PureF Tryz.prog p104.ix [.ag (eF b)] (.lst 2 (aD bD (cU b.rws.toNat b.pls.toNat))) := fun r p h1 h2 h => by
    have h3 := PureF.mem gO (f := iZ) (ds := [.ag (eF b)]) h (.cons (.ag (.cons .any (.cons (.i h1) (.cons (.i h2) (.cons .any (.cons .any (.cons .any (.cons .any (.cons .any (.cons .any .nil)))))))))) .nil)
    rw [h1, h2]
    exact h3
  rcases (show b.rws = 1 ∨ b.rws = 2 ∨ b.rws = 3 by omega) with h1 | h1 | h1 <;> rcases (show b.pls = 1 ∨ b.pls = 2 ∨ b.pls = 3 ∨ b.pls = 4 ∨ b.pls = 5 by omega) with h2 | h2 | h2 | h2 | h2
  · exact key 1 1 h1 h2 If
  · exact key 1 2 h1 h2 Jf
  · exact key 1 3 h1 h2 KI
  · exact key 1 4 h1 h2 KX
  · exact key 1 5 h1 h2 Ih
  · exact key 2 1 h1 h2 Km
  · exact key 2 2 h1 h2 HM
  · exact key 2 3 h1 h2 JD
  · exact key 2 4 h1 h2 Lt
  · exact key 2 5 h1 h2 Jg
  · exact key 3 1 h1 h2 Jr
  · exact key 3 2 h1 h2 KP
  · exact key 3 3 h1 h2 Ko
  · exact key 3 4 h1 h2 IM
  · exact key 3 5 h1 h2 KN
set_option maxRecDepth 100000
theorem EV {b : Bh} (V : VW b) : ∀ q ∈ cU b.rws.toNat b.pls.toNat, dN b q = true := fun q hq => by
  obtain ⟨i, hi, hq⟩ := List.mem_flatMap.1 hq
  obtain ⟨j, hj, rfl⟩ := List.mem_map.1 hq
  exact IG (List.mem_range.1 hi) (List.mem_range.1 hj)
theorem qK {b : Bh} (V : VW b) : (cU b.rws.toNat b.pls.toNat).length ≤ 50 := by
  have q1 := V.rws
  have q2 := V.pls
  rcases (show b.rws = 1 ∨ b.rws = 2 ∨ b.rws = 3 by omega) with h1 | h1 | h1 <;> rcases (show b.pls = 1 ∨ b.pls = 2 ∨ b.pls = 3 ∨ b.pls = 4 ∨ b.pls = 5 by omega) with h2 | h2 | h2 | h2 | h2 <;> rw [h1, h2] <;> decide
def EI (b : Bh) (S : Nat → Nat → Int) : List D := Nu b S (cU b.rws.toNat b.pls.toNat) (fun x => x.good) 0 (b.last + 1).toNat
theorem vS (b : Bh) (L : List (List Int)) (l1 : b.face.length ≤ 1000) (l2 : b.sun.length ≤ 1000) (l3 : b.winds.length ≤ 1000) (l6 : ∀ w ∈ b.winds, w.length ≤ 1000) (h1 : L.length ≤ 1000) (h2 : ∀ w ∈ L, w.length ≤ 1000) (hf : bB b = 0) (hp : Bi b L = true) (hh : kL b = true) : PureF Tryz.prog p43.ix [.ag (eF b), .lst 1 (aD eQ L)] (.tp [.ag (EI b (lS L)), .i .i64 0]) := by
  have Z := jC hf
  have V := Z.v
  have hv := V.last
  have hr := V.rws
  have cP := Cz b L (by omega) h1 h2
  have cS := Fi b true l1 l2 l3 l6
  have e2 : wI b true (kL b) = 0 := by rw [hh]; exact It hf
  have e1 : rM b true (kL b) = eF b := if_pos e2
  rw [e1, e2] at cS
  rw [hp] at cP
  obtain ⟨p1, p2⟩ := lV.1 hp
  have cC := vD L (by omega) (fun w hw => by have := (p2 w hw).1; omega)
  have hne := ES hh
  have cL := CR b V
  have cB := Ku b V (lS L) KOk.good (cU b.rws.toNat b.pls.toNat) (EV V) (by have := Z.l4; omega) (qK V) 0 (b.last + 1).toNat b.last (by omega) (by omega) l6 (by have := Z.l5; omega) hne
  have cB : PureF Tryz.prog p102.ix [.ag (eF b), .ag (kK (lS L)), .ag (BO p105 (cU b.rws.toNat b.pls.toNat) 0 b.last)] (.ag (EI b (lS L))) := cB
  refine PureF.run NI (by simp) (by simp [aQ, dG, Pu, aS, aJ]) ?_; conv => whnf
  repeat' first | ((first | refine Qz ?_ | refine Qf (cP) ?_ | refine Qf (cS) ?_ | refine Qf (cC) ?_ | refine Qf (cL) ?_ | refine Qf (cB) ?_ | with_reducible (first | refine Qm ?_ | refine Qn ?_ | refine Qo ?_ | refine Qp ?_ | refine WB.nt ?_ | refine WB.nf ?_ | refine WB.dec (fun h => ?_) (fun h => ?_) | refine WB.ndec (fun h => ?_) (fun h => ?_)) | refine WB.mk (fun h => ?_) (fun h => ?_)) <;> conv => whnf) | (refine WB.tt ?_; conv => whnf) | (refine WB.ff ?_; conv => whnf)
  exact ⟨.inr rfl, _, rfl, .pu ⟨⟨trivial, trivial, trivial⟩, trivial, trivial⟩⟩
theorem sV (l : List (List Hr)) : dG (aD nG l) := fL eT l
theorem sU (l : List Hr) : dG (aD tO l) := fL CQ l
set_option maxRecDepth 1000000
set_option maxRecDepth 100000
theorem GU {sl : T D} {ob : T C} {nx : Pos} {K : X → Prop} {lg : Option (T Bool)} {d : Pos} {x y : RX} (a c : Int) (h1 : bH sl x = some (.ag (FD a c))) (h2 : bH sl y = some (.ag (FD a c))) (w1 : sQ .i64 a = true) (w2 : sQ .i64 c = true) (k : eB sl ob nx lg d K (.b true)) : WSt (.eqr d false [.i .i64, .i .i64] x y) ⟨sl, ob, nx, lg⟩ K :=
  WSt.eqrN (neg := false) (r := true) [a, c] [a, c] h1 h2 rfl rfl (by simp [w1, w2]) (by simp [w1, w2]) (by simp) k
theorem FitP.spot {ps : List (Bool × List CK)} {ds : List D} (h : FitP ((true, [.i .i64, .i .i64]) :: ps) ds) : ∃ (p : Int × Int) (ds' : List D), ds = .ag (bD p) :: ds' ∧ (i64 p.1 ∧ i64 p.2) ∧ FitP ps ds' := by
  unfold FitP at h
  obtain ⟨es, ds', rfl, h1, h2⟩ := h
  simp only [FitL, eH] at h1
  obtain ⟨d, ds, rfl, ⟨n1, rfl, w1⟩, d2, ds2, rfl, ⟨n2, rfl, w2⟩, rfl⟩ := h1
  exact ⟨(n1, n2), ds', rfl, ⟨qX w1, qX w2⟩, h2⟩
section
variable {sl : T D} {ob : T C} {nx : Pos} {lg : Option (T Bool)} {K : X -> Prop} {d : Pos} {a b j : Nat} {x y : RX} {k kk : IntKind}
theorem WSt.shrU (hx : bH sl x = some (.i k (a : Int))) (hy : bH sl y = some (.i kk (j : Int))) (hk : oC k = 64) (hj : j <= 63) (h : ∀ r : Nat, r = a / 2 ^ j -> r <= a -> eB sl ob nx lg d K (.i k (r : Int))) : WSt (.bin d .shr x y) ⟨sl, ob, nx, lg⟩ K := by
 obtain ⟨k2, k3⟩ := bC (h (a / 2 ^ j) rfl (Nat.div_le_self _ _))
 refine ⟨_, ?_, k3⟩
 show iQ d .shr x y sl ob nx lg = _
 unfold iQ
 rw [hx, hy]
 have hm : sZ j (oC k) = j := by
  unfold sZ
  rw [hk, Nat.ble_eq_true_of_le (show j <= 64 by omega)]
  rfl
 have hs : CF ((a : Nat) : Int) j = ((a / 2 ^ j : Nat) : Int) := rfl
 show CX k (CF ((a : Nat) : Int) (sZ j (oC k))) _ = _
 rw [hm, hs, pI]
 exact k2
end
theorem oY {B : Pos → Prop} {ob : T C} {d : D} (h : Pu d := by simp [Cell.d, Pu, aQ, dG, aC, aG, aJ, aS, fY, kS]; done) : Fz B ob d d := .pu h
theorem EC (b : Bh) : PureF Tryz.prog p59.ix [.ag (eF b)] (.b (kP b && decide (bB b = 0))) := by
  have cTh := Hg b
  refine PureF.run Nc (by simp) (by simp [aQ, dG, Pu, aS]) ?_; conv => whnf
  cases hTh : kP b with
  | false =>
    rw [hTh] at cTh
    repeat' first | ((first | refine Qz ?_ | refine Qf (cTh) ?_ | with_reducible (first | refine Qm ?_ | refine Qn ?_ | refine Qo ?_ | refine Qp ?_ | refine WB.nt ?_ | refine WB.nf ?_ | refine WB.dec (fun h => ?_) (fun h => ?_) | refine WB.ndec (fun h => ?_) (fun h => ?_)) | refine WB.mk (fun h => ?_) (fun h => ?_)) <;> conv => whnf) | (refine WB.tt ?_; conv => whnf) | (refine WB.ff ?_; conv => whnf)
    exact Fin.b rfl rfl
  | true =>
  rw [hTh] at cTh
  have F := (BN hTh).f
  have cF := EO b F.l1 F.l2 F.l3 F.l6
  by_cases hf : bB b = 0
  · rw [decide_eq_true hf]
    repeat' first | ((first | refine Qz ?_ | refine Qf (cTh) ?_ | refine Qf (cF) ?_ | with_reducible (first | refine Qm ?_ | refine Qn ?_ | refine Qo ?_ | refine Qp ?_ | refine WB.nt ?_ | refine WB.nf ?_ | refine WB.dec (fun h => ?_) (fun h => ?_) | refine WB.ndec (fun h => ?_) (fun h => ?_)) | refine WB.mk (fun h => ?_) (fun h => ?_)) <;> conv => whnf) | (refine WB.tt ?_; conv => whnf) | (refine WB.ff ?_; conv => whnf)
    all_goals first | exact Fin.b rfl rfl | exact Fin.b rfl (by rw [hf]; rfl)
  · rw [decide_eq_false hf]
    repeat' first | ((first | refine Qz ?_ | refine Qf (cTh) ?_ | refine Qf (cF) ?_ | with_reducible (first | refine Qm ?_ | refine Qn ?_ | refine Qo ?_ | refine Qp ?_ | refine WB.nt ?_ | refine WB.nf ?_ | refine WB.dec (fun h => ?_) (fun h => ?_) | refine WB.ndec (fun h => ?_) (fun h => ?_)) | refine WB.mk (fun h => ?_) (fun h => ?_)) <;> conv => whnf) | (refine WB.tt ?_; conv => whnf) | (refine WB.ff ?_; conv => whnf)
    all_goals first | exact Fin.b rfl rfl | exact Fin.b rfl (by rw [decide_eq_false hf]; rfl)
theorem WIx.nums {k : IntKind} {l : List Int} {n : Int} {j : Nat} {F : List D → Prop} (hn : n = (j : Int)) (h : j < l.length) (K : F [.i k (l.getD j 0)]) : WIx (kU k l) n F := by
  subst hn
  exact WIx.at (r := [.i k (l.getD j 0)]) (by simp [kU, List.getD, h]) K
theorem Bm (k : IntKind) (l : List Int) : (kU k l).length = l.length := by simp [kU]
theorem bS (k : IntKind) (l : List Int) : dG (kU k l) := pM.2 fun r hr => by
  obtain ⟨n, _, rfl⟩ := List.mem_map.1 hr
  simp [aQ, Pu]
def LC (ws : List Int) : Prop := ∀ n ∈ ws, 0 ≤ n ∧ n ≤ 65535
def Bc (ws : List Int) (i : Nat) : Nat := if ws.length = 0 then 0 else (ws.getD (i % ws.length) 0).toNat
theorem BF {ws : List Int} (h : LC ws) (i : Nat) : Bc ws i ≤ 65535 := by
  unfold Bc
  split
  · omega
  · rename_i k
    have := h _ (aL (d := 0) (Nat.mod_lt i (by omega : 0 < ws.length)))
    omega
theorem Dn (ws : List Int) (h : LC ws) (i : Nat) : PureF Tryz.prog p114.ix [.lst 1 (kU .u16 ws), .i .i64 (i : Int)] (.i .i64 (Bc ws i : Int)) := by
  have e1 := Bm .u16 ws
  refine PureF.run Lf (by simp) (by simp [aQ, dG, Pu, bS]) ?_; conv => whnf
  by_cases k : ws.length = 0
  · have e : Bc ws i = 0 := if_pos k
    rw [e]
    repeat' first | ((first | refine Qz ?_ | with_reducible (first | refine Qm ?_ | refine Qn ?_ | refine Qo ?_ | refine Qp ?_ | refine WB.nt ?_ | refine WB.nf ?_ | refine WB.dec (fun h => ?_) (fun h => ?_) | refine WB.ndec (fun h => ?_) (fun h => ?_)) | refine WB.mk (fun h => ?_) (fun h => ?_)) <;> conv => whnf) | (refine WB.tt ?_; conv => whnf) | (refine WB.ff ?_; conv => whnf)
    exact Fin.i rfl rfl
  have hm := Nat.mod_lt i (by omega : 0 < ws.length)
  have hb := h _ (aL (d := 0) hm)
  have e : Bc ws i = (ws.getD (i % ws.length) 0).toNat := if_neg k
  repeat' first | ((first | refine Qz ?_ | refine WIx.nums (j := i % ws.length) (by rw [e1, Fl]) hm ?_ | with_reducible (first | refine Qm ?_ | refine Qn ?_ | refine Qo ?_ | refine Qp ?_ | refine WB.nt ?_ | refine WB.nf ?_ | refine WB.dec (fun h => ?_) (fun h => ?_) | refine WB.ndec (fun h => ?_) (fun h => ?_)) | refine WB.mk (fun h => ?_) (fun h => ?_)) <;> conv => whnf) | (refine WB.tt ?_; conv => whnf) | (refine WB.ff ?_; conv => whnf)
  exact Fin.i rfl (by rw [e]; omega)
def iY (ws : List Int) (h i : Nat) : Int := Int.tmod ((Bc ws h / 2 ^ (2 * i) : Nat) : Int) 4
theorem Gl (ws : List Int) (h i : Nat) : 0 ≤ iY ws h i ∧ iY ws h i ≤ 3 := by
  have h0 := Fl (Bc ws h / 2 ^ (2 * i)) 4
  unfold iY
  rw [show Int.tmod ((Bc ws h / 2 ^ (2 * i) : Nat) : Int) 4 = ((Bc ws h / 2 ^ (2 * i) % 4 : Nat) : Int) from h0]
  omega
def FF (b : Bh) (ws : List Int) : List (List Int) := wR (iY ws) (b.last + 1).toNat b.rws.toNat
set_option maxHeartbeats 8000000 in
theorem Hd (b : Bh) (V : VW b) (ws : List Int) (hu : LC ws) : PureF Tryz.prog p61.ix [.ag (eF b), .lst 1 (kU .u16 ws)] (.lst 1 (aD eQ (FF b ws))) := by
  have q3 := V.last
  unfold FF
  have q1 := V.rws
  have q2 := V.pls
  refine PureF.run LV (by simp) (by simp [aQ, dG, Pu, aS, bS]) ?_; conv => whnf
  repeat' first | ((first | refine Qz ?_ | refine Qy ?_) <;> conv => whnf) | (refine WB.tt ?_; conv => whnf) | (refine WB.ff ?_; conv => whnf)
  refine Rn.loopV [(p6, none), (p7, none), (p8, none), (p9, none), (bI, none), (p11, none), (bO, none), (bM, none), (bT, none), (bV, none), (cJ, none), (dA, none), (dB, none), (eG, none), (p20, none), (p21, none), (p22, none), (fJ, none), (p24, none), (p25, none), (p26, none), (iG, none), (p28, none), (p29, none), (gU, none), (kA, none), (lF, none), (kY, none), (nM, none), (iX, none), (oA, none), (oK, none), (qY, none)] (fun i : Nat => [(p6, some (Aw (.i (.o .h)) 1 (wR (iY ws) i b.rws.toNat))), (p7, some (.i .i64 (i : Int)))]) (fun i : Nat => [((.i (.o .h)), Bv eQ (wR (iY ws) i b.rws.toNat))]) (fun i : Nat => iI (.o .h) (.o (.i .h)) (wR (iY ws) i b.rws.toNat)) (fun i : Nat => i ≤ (b.last + 1).toNat) (fun i : Nat => (b.last + 1).toNat - i) 0 ?_ ?_ ?_
  · conv => whnf
    (refine X.le.mk ?_ ?_ (Nat.le_refl _) rfl rfl) <;> (repeat' first | exact T.le_e _ | refine T.le_some ?_ rfl ?_ | refine T.le_none ?_ ?_ | refine T.le_ee ?_ ?_)
  rotate_left
  intro xl1 hxl1
  rotate_right
  · exact Nat.zero_le _
  intro i hi
  have hi : i ≤ (b.last + 1).toNat := hi
  have osc := Dc (iY ws) i b.rws.toNat
  have olen := tZ (iY ws) i b.rws.toNat
  have oend : i = (b.last + 1).toNat → wR (iY ws) i b.rws.toNat = wR (iY ws) (b.last + 1).toNat b.rws.toNat := fun h => by rw [h]
  generalize hO : wR (iY ws) i b.rws.toNat = O at *
  conv => whnf
  repeat' first | ((first | refine Qz ?_ | refine Qy ?_) <;> conv => whnf) | (refine WB.tt ?_; conv => whnf) | (refine WB.ff ?_; conv => whnf)
  refine WB.dec (fun hd => ?_) (fun hd => ?_) <;> conv => whnf
  rotate_left
  · repeat' first | ((first | refine Qz ?_ | refine Qy ?_) <;> conv => whnf) | (refine WB.tt ?_; conv => whnf) | (refine WB.ff ?_; conv => whnf)
    rw [← oend (by omega)]
    exact Fin.t (.inr rfl) rfl (Fz.G O (fun h => h) (fun c h => h) GG tX)
  have hlt : i < (b.last + 1).toNat := by omega
  repeat' first | ((first | refine Qz ?_ | refine Qy ?_) <;> conv => whnf) | (refine WB.tt ?_; conv => whnf) | (refine WB.ff ?_; conv => whnf)
  cases O with
  | nil =>
    refine Rn.loopV [(p8, none), (p9, none), (bI, none), (dA, none), (dB, none), (eG, none), (p20, none), (p21, none), (p22, none), (fJ, none), (p24, none), (p25, none), (p26, none), (iG, none), (p28, none), (p29, none), (gU, none), (kA, none), (lF, none), (kY, none), (nM, none)] (fun j : Nat => [(p8, some (Aw (.i .h) 1 ((List.range j).map (iY ws i)))), (p9, some (.i .i64 (j : Int)))]) (fun j : Nat => [((.i .h), Bv uJ ((List.range j).map (iY ws i)))]) (fun j : Nat => iI (.o .h) (.o (.o .h)) ((List.range j).map (iY ws i))) (fun j : Nat => j ≤ b.rws.toNat) (fun j : Nat => b.rws.toNat - j) 0 ?_ ?_ ?_
    · conv => whnf
      (refine X.le.mk ?_ ?_ (Nat.le_refl _) rfl rfl) <;> (repeat' first | exact T.le_e _ | refine T.le_some ?_ rfl ?_ | refine T.le_none ?_ ?_ | refine T.le_ee ?_ ?_)
    rotate_left
    intro xl2 hxl2
    rotate_right
    · exact Nat.zero_le _
    intro j hj
    have hj : j ≤ b.rws.toNat := hj
    have hsc : (List.range (j + 1)).map (iY ws i) = (List.range j).map (iY ws i) ++ [iY ws i j] := by rw [List.range_succ, List.map_append]; rfl
    have hAl : ((List.range j).map (iY ws i)).length ≤ j := by simp
    have hne : 0 < j → (List.range j).map (iY ws i) ≠ [] := fun h e => by have := congrArg List.length e; simp at this; omega
    generalize hA : (List.range j).map (iY ws i) = A at *
    conv => whnf
    repeat' first | ((first | refine Qz ?_ | refine Qy ?_) <;> conv => whnf) | (refine WB.tt ?_; conv => whnf) | (refine WB.ff ?_; conv => whnf)
    refine WB.dec (fun hd2 => ?_) (fun hd2 => ?_) <;> conv => whnf
    · have hlt2 : j < b.rws.toNat := by omega
      have cG := Dn ws hu i
      have hwd := BF hu i
      cases A with
      | nil =>
        repeat' first | ((first | refine Qz ?_ | refine Qf (cG) ?_ | refine And.intro (InR.u64 (by omega) (by omega)) ?_ | refine Qy ?_) <;> conv => whnf) | (refine WB.tt ?_; conv => whnf) | (refine WB.ff ?_; conv => whnf)
        refine WSt.shrU (k := .i64) (kk := .u64) (a := Bc ws i) (j := 2 * j) (by rfl) (by rfl) (by rfl) (by omega) ?_; intro r1 hr1 hr2; subst hr1; conv => whnf
        repeat' first | ((first | refine Qz ?_ | refine Qy ?_) <;> conv => whnf) | (refine WB.tt ?_; conv => whnf) | (refine WB.ff ?_; conv => whnf)
        refine WSt.app_first (r := uJ (iY ws i j)) (by rfl) (.inl rfl) (by rfl) (by rfl) (by rfl) (by rfl) ?_; conv => whnf
        repeat' first | ((first | refine Qz ?_ | refine Qy ?_) <;> conv => whnf) | (refine WB.tt ?_; conv => whnf) | (refine WB.ff ?_; conv => whnf)
        refine AgainB.v (j + 1) (by omega) (show j + 1 ≤ b.rws.toNat by omega) (by show Pos.nat _ ≤ Pos.nat _; simp only [hA, hsc, iI, List.cons_append, List.nil_append] <;> decide) (by assumption) ?_
        rw [hsc]
        conv => whnf
        refine Shr.of ?_ ?_ rfl rfl
        · (repeat' first | exact Rel.e | refine Rel.some ?_ ?_ ?_ | refine Rel.none ?_ ?_ | refine Rel.ee ?_ ?_)
          all_goals show Fz _ _ _ _
          all_goals first | exact Fq | exact Fz.pu (bS _ _) | exact oY
        · (repeat' first | exact Rel.e | refine Rel.some ?_ ?_ ?_ | refine Rel.none ?_ ?_ | refine Rel.ee ?_ ?_)
          all_goals refine Hx ?_
          all_goals first | exact ShC.na rE _ | exact Sq | (refine ShC.same ?_; (repeat' first | exact ShC.nl | refine ShC.cn ?_ ?_) <;> first | exact Fq | exact Fz.pu (bS _ _) | exact oY)
      | cons a s =>
        have hs5 : s.length + 1 ≤ 1000 := Nat.le_trans hAl (by omega)
        repeat' first | ((first | refine Qz ?_ | refine Qf (cG) ?_ | refine And.intro (InR.u64 (by omega) (by omega)) ?_ | refine Qy ?_) <;> conv => whnf) | (refine WB.tt ?_; conv => whnf) | (refine WB.ff ?_; conv => whnf)
        refine WSt.shrU (k := .i64) (kk := .u64) (a := Bc ws i) (j := 2 * j) (by rfl) (by rfl) (by rfl) (by omega) ?_; intro r1 hr1 hr2; subst hr1; conv => whnf
        repeat' first | ((first | refine Qz ?_ | refine Qy ?_) <;> conv => whnf) | (refine WB.tt ?_; conv => whnf) | (refine WB.ff ?_; conv => whnf)
        refine WSt.app_one (id := (.i .h)) (ds := (aD uJ (a :: s)).flatten) (r := uJ (iY ws i j)) (by rfl) (by rfl) (by rfl) (by rfl) (by rfl) (by rfl) (by rw [dO (z := 1) AU]; rfl) (by rfl) (by rfl) (by omega) (by rfl) ?_; conv => whnf
        repeat' first | ((first | refine Qz ?_ | refine Qy ?_) <;> conv => whnf) | (refine WB.tt ?_; conv => whnf) | (refine WB.ff ?_; conv => whnf)
        refine AgainB.v (j + 1) (by omega) (show j + 1 ≤ b.rws.toNat by omega) (by show Pos.nat _ ≤ Pos.nat _; simp only [hA, hsc, iI, List.cons_append, List.nil_append] <;> decide) (by assumption) ?_
        rw [hsc, List.cons_append]
        conv => whnf
        (try rw [fS])
        (try rw [fW])
        refine Shr.of ?_ ?_ rfl rfl
        · (repeat' first | exact Rel.e | refine Rel.some ?_ ?_ ?_ | refine Rel.none ?_ ?_ | refine Rel.ee ?_ ?_)
          all_goals show Fz _ _ _ _
          all_goals first | exact Fq | exact Fz.pu (bS _ _) | exact oY
        · (repeat' first | exact Rel.e | refine Rel.some ?_ ?_ ?_ | refine Rel.none ?_ ?_ | refine Rel.ee ?_ ?_)
          all_goals refine Hx ?_
          all_goals first | exact ShC.ca rE _ _ | exact Sq | (refine ShC.same ?_; (repeat' first | exact ShC.nl | refine ShC.cn ?_ ?_) <;> first | exact Fq | exact Fz.pu (bS _ _) | exact oY)
    obtain rfl : j = b.rws.toNat := by omega
    have hn := hne (by omega)
    cases A with
    | nil => exact absurd rfl hn
    | cons a s =>
    repeat' first | ((first | refine Qz ?_ | refine Qy ?_) <;> conv => whnf) | (refine WB.tt ?_; conv => whnf) | (refine WB.ff ?_; conv => whnf)
    refine WSt.app_first (r := [.sl (.i .h) 0 (s.length + 1) s.length 1]) (by rfl) (.inl rfl) (by rfl) (by rfl) (by rfl) (by rfl) ?_; conv => whnf
    repeat' first | ((first | refine Qz ?_ | refine Qy ?_) <;> conv => whnf) | (refine WB.tt ?_; conv => whnf) | (refine WB.ff ?_; conv => whnf)
    rw [hA] at osc
    refine AgainB.vB (i + 1) (fun id => id.nat < 2 ∨ id.nat = 5) (by omega) (show i + 1 ≤ (b.last + 1).toNat by omega) (by show Pos.nat _ ≤ Pos.nat _; simp only [hO, osc, iI, List.cons_append, List.nil_append] <;> decide) (show ∀ id : Pos, id.nat < (iI (.o .h) (.o (.i .h)) (wR (iY ws) i b.rws.toNat)).nat → _ by rw [hO]; exact fun id h => .inl h) (show ∀ id : Pos, _ → id.nat < (iI (.o .h) (.o (.i .h)) (wR (iY ws) (i + 1) b.rws.toNat)).nat by rw [osc]; exact fun id h => by show id.nat < 6; omega) (by assumption) ?_
    rw [osc]
    conv => whnf
    refine ShrB.of ?_ ?_ rfl rfl
    · (repeat' first | exact Rel.e | refine Rel.some ?_ ?_ ?_ | refine Rel.none ?_ ?_ | refine Rel.ee ?_ ?_)
      all_goals show Fz _ _ _ _
      all_goals first | exact Fq | exact Fz.pu (bS _ _) | exact oY
    · (repeat' first | exact Rel.e | refine Rel.some ?_ ?_ ?_ | refine Rel.none ?_ ?_ | refine Rel.ee ?_ ?_)
      all_goals refine ⟨?_, ?_⟩
      all_goals first | (focus (first | rfl | (simp [Pos.nat]; done))) | (refine ShC.grownF (ds := []) (st := 0) (Nat.le_refl _) trivial ?_; exact Fz.G (a :: s) (by simp [Pos.nat]) (fun c h => h) AU rE) | exact Sq | (refine ShC.same ?_; (repeat' first | exact ShC.nl | refine ShC.cn ?_ ?_) <;> first | exact Fq | exact Fz.pu (bS _ _) | exact oY)
  | cons a0 s0 =>
    have hs5 : s0.length + 1 ≤ 1000 := by have := olen; simp at this; omega
    refine Rn.loopV [(p8, none), (p9, none), (bI, none), (dA, none), (dB, none), (eG, none), (p20, none), (p21, none), (p22, none), (fJ, none), (p24, none), (p25, none), (p26, none), (iG, none), (p28, none), (p29, none), (gU, none), (kA, none), (lF, none), (kY, none), (nM, none)] (fun j : Nat => [(p8, some (Aw (.i (.i .h)) 1 ((List.range j).map (iY ws i)))), (p9, some (.i .i64 (j : Int)))]) (fun j : Nat => [((.i (.i .h)), Bv uJ ((List.range j).map (iY ws i)))]) (fun j : Nat => iI (.o (.i .h)) (.o (.o (.o .h))) ((List.range j).map (iY ws i))) (fun j : Nat => j ≤ b.rws.toNat) (fun j : Nat => b.rws.toNat - j) 0 ?_ ?_ ?_
    · conv => whnf
      (refine X.le.mk ?_ ?_ (Nat.le_refl _) rfl rfl) <;> (repeat' first | exact T.le_e _ | refine T.le_some ?_ rfl ?_ | refine T.le_none ?_ ?_ | refine T.le_ee ?_ ?_)
    rotate_left
    intro xl3 hxl3
    rotate_right
    · exact Nat.zero_le _
    intro j hj
    have hj : j ≤ b.rws.toNat := hj
    have hsc : (List.range (j + 1)).map (iY ws i) = (List.range j).map (iY ws i) ++ [iY ws i j] := by rw [List.range_succ, List.map_append]; rfl
    have hAl : ((List.range j).map (iY ws i)).length ≤ j := by simp
    have hne : 0 < j → (List.range j).map (iY ws i) ≠ [] := fun h e => by have := congrArg List.length e; simp at this; omega
    generalize hA : (List.range j).map (iY ws i) = A at *
    conv => whnf
    repeat' first | ((first | refine Qz ?_ | refine Qy ?_) <;> conv => whnf) | (refine WB.tt ?_; conv => whnf) | (refine WB.ff ?_; conv => whnf)
    refine WB.dec (fun hd2 => ?_) (fun hd2 => ?_) <;> conv => whnf
    · have hlt2 : j < b.rws.toNat := by omega
      have cG := Dn ws hu i
      have hwd := BF hu i
      cases A with
      | nil =>
        repeat' first | ((first | refine Qz ?_ | refine Qf (cG) ?_ | refine And.intro (InR.u64 (by omega) (by omega)) ?_ | refine Qy ?_) <;> conv => whnf) | (refine WB.tt ?_; conv => whnf) | (refine WB.ff ?_; conv => whnf)
        refine WSt.shrU (k := .i64) (kk := .u64) (a := Bc ws i) (j := 2 * j) (by rfl) (by rfl) (by rfl) (by omega) ?_; intro r1 hr1 hr2; subst hr1; conv => whnf
        repeat' first | ((first | refine Qz ?_ | refine Qy ?_) <;> conv => whnf) | (refine WB.tt ?_; conv => whnf) | (refine WB.ff ?_; conv => whnf)
        refine WSt.app_first (r := uJ (iY ws i j)) (by rfl) (.inl rfl) (by rfl) (by rfl) (by rfl) (by rfl) ?_; conv => whnf
        repeat' first | ((first | refine Qz ?_ | refine Qy ?_) <;> conv => whnf) | (refine WB.tt ?_; conv => whnf) | (refine WB.ff ?_; conv => whnf)
        refine AgainB.v (j + 1) (by omega) (show j + 1 ≤ b.rws.toNat by omega) (by show Pos.nat _ ≤ Pos.nat _; simp only [hA, hsc, iI, List.cons_append, List.nil_append] <;> decide) (by assumption) ?_
        rw [hsc]
        conv => whnf
        refine Shr.of ?_ ?_ rfl rfl
        · (repeat' first | exact Rel.e | refine Rel.some ?_ ?_ ?_ | refine Rel.none ?_ ?_ | refine Rel.ee ?_ ?_)
          all_goals show Fz _ _ _ _
          all_goals first | exact Fq | exact Fz.pu (bS _ _) | exact oY
        · (repeat' first | exact Rel.e | refine Rel.some ?_ ?_ ?_ | refine Rel.none ?_ ?_ | refine Rel.ee ?_ ?_)
          all_goals refine Hx ?_
          all_goals first | exact ShC.G tX a0 s0 | exact ShC.na rE _ | exact Sq | (refine ShC.same ?_; (repeat' first | exact ShC.nl | refine ShC.cn ?_ ?_) <;> first | exact Fq | exact Fz.pu (bS _ _) | exact oY)
      | cons a s =>
        have hs5 : s.length + 1 ≤ 1000 := Nat.le_trans hAl (by omega)
        repeat' first | ((first | refine Qz ?_ | refine Qf (cG) ?_ | refine And.intro (InR.u64 (by omega) (by omega)) ?_ | refine Qy ?_) <;> conv => whnf) | (refine WB.tt ?_; conv => whnf) | (refine WB.ff ?_; conv => whnf)
        refine WSt.shrU (k := .i64) (kk := .u64) (a := Bc ws i) (j := 2 * j) (by rfl) (by rfl) (by rfl) (by omega) ?_; intro r1 hr1 hr2; subst hr1; conv => whnf
        repeat' first | ((first | refine Qz ?_ | refine Qy ?_) <;> conv => whnf) | (refine WB.tt ?_; conv => whnf) | (refine WB.ff ?_; conv => whnf)
        refine WSt.app_one (id := (.i (.i .h))) (ds := (aD uJ (a :: s)).flatten) (r := uJ (iY ws i j)) (by rfl) (by rfl) (by rfl) (by rfl) (by rfl) (by rfl) (by rw [dO (z := 1) AU]; rfl) (by rfl) (by rfl) (by omega) (by rfl) ?_; conv => whnf
        repeat' first | ((first | refine Qz ?_ | refine Qy ?_) <;> conv => whnf) | (refine WB.tt ?_; conv => whnf) | (refine WB.ff ?_; conv => whnf)
        refine AgainB.v (j + 1) (by omega) (show j + 1 ≤ b.rws.toNat by omega) (by show Pos.nat _ ≤ Pos.nat _; simp only [hA, hsc, iI, List.cons_append, List.nil_append] <;> decide) (by assumption) ?_
        rw [hsc, List.cons_append]
        conv => whnf
        (try rw [fS])
        (try rw [fW])
        refine Shr.of ?_ ?_ rfl rfl
        · (repeat' first | exact Rel.e | refine Rel.some ?_ ?_ ?_ | refine Rel.none ?_ ?_ | refine Rel.ee ?_ ?_)
          all_goals show Fz _ _ _ _
          all_goals first | exact Fq | exact Fz.pu (bS _ _) | exact oY
        · (repeat' first | exact Rel.e | refine Rel.some ?_ ?_ ?_ | refine Rel.none ?_ ?_ | refine Rel.ee ?_ ?_)
          all_goals refine Hx ?_
          all_goals first | exact ShC.G tX a0 s0 | exact ShC.ca rE _ _ | exact Sq | (refine ShC.same ?_; (repeat' first | exact ShC.nl | refine ShC.cn ?_ ?_) <;> first | exact Fq | exact Fz.pu (bS _ _) | exact oY)
    obtain rfl : j = b.rws.toNat := by omega
    have hn := hne (by omega)
    cases A with
    | nil => exact absurd rfl hn
    | cons a s =>
    repeat' first | ((first | refine Qz ?_ | refine Qy ?_) <;> conv => whnf) | (refine WB.tt ?_; conv => whnf) | (refine WB.ff ?_; conv => whnf)
    refine WSt.app_one (id := (.i (.o .h))) (ds := (aD eQ (a0 :: s0)).flatten) (r := [.sl (.i (.i .h)) 0 (s.length + 1) s.length 1]) (by rfl) (by rfl) (by rfl) (by rfl) (by rfl) (by rfl) (by rw [dO (z := 1) GG]; rfl) (by rfl) (by rfl) (by omega) (by rfl) ?_; conv => whnf
    repeat' first | ((first | refine Qz ?_ | refine Qy ?_) <;> conv => whnf) | (refine WB.tt ?_; conv => whnf) | (refine WB.ff ?_; conv => whnf)
    rw [hA] at osc
    refine AgainB.v (i + 1) (by omega) (show i + 1 ≤ (b.last + 1).toNat by omega) (by show Pos.nat _ ≤ Pos.nat _; simp only [hO, osc, iI, List.cons_append, List.nil_append] <;> decide) (by assumption) ?_
    rw [osc, List.cons_append]
    conv => whnf
    (try rw [fS])
    (try rw [fW])
    refine Shr.of ?_ ?_ rfl rfl
    · (repeat' first | exact Rel.e | refine Rel.some ?_ ?_ ?_ | refine Rel.none ?_ ?_ | refine Rel.ee ?_ ?_)
      all_goals show Fz _ _ _ _
      all_goals first | exact Fq | exact Fz.pu (bS _ _) | exact oY
    · (repeat' first | exact Rel.e | refine Rel.some ?_ ?_ ?_ | refine Rel.none ?_ ?_ | refine Rel.ee ?_ ?_)
      all_goals refine Hx ?_
      all_goals first | exact ShC.grownF (by omega) (fA tX (a0 :: s0)) (Fz.G (a :: s) (fun h => absurd (show 7 < 6 from h) (by decide)) (fun c h => h) AU rE) | exact Sq | (refine ShC.same ?_; (repeat' first | exact ShC.nl | refine ShC.cn ?_ ?_) <;> first | exact Fq | exact Fz.pu (bS _ _) | exact oY)
theorem Gi {b : Bh} (V : VW b) (ws : List Int) : Bi b (FF b ws) = true := by
  have q1 := V.rws
  have q3 := V.last
  refine lV.2 ⟨by unfold FF; rw [tZ]; omega, fun w hw => ?_⟩
  have h1 := (tD hw).1
  refine ⟨by omega, List.all_eq_true.2 fun x hx => ?_⟩
  obtain ⟨r, p, rfl⟩ := (tD hw).2 x hx
  have := Gl ws r p
  exact decide_eq_true (by omega)
theorem Es {b : Bh} (V : VW b) (ws : List Int) : (FF b ws).length ≤ 1000 ∧ ∀ w ∈ FF b ws, w.length ≤ 1000 := by
  have q1 := V.rws
  have q3 := V.last
  refine ⟨by unfold FF; rw [tZ]; omega, fun w hw => ?_⟩
  rw [(tD hw).1]; omega
set_option maxRecDepth 1000000
set_option maxRecDepth 100000
def EE (b : Bh) : Bool := kP b && decide (bB b = 0)
theorem BU (b : Bh) : PureF Tryz.prog p59.ix [.ag (eF b)] (.b (EE b)) := EC b
theorem Ez {b : Bh} (h : EE b = true) : kP b = true ∧ bB b = 0 := by
  unfold EE at h
  simpa using h
def xB (b : Bh) : Bh := ⟨b.last, b.rws, b.pls, b.rch, b.face, b.sun, b.winds, [], b.nts⟩
def yB (b : Bh) : Bh := ⟨b.last, b.rws, b.pls, 0, b.face, b.sun, b.winds, b.brk, b.nts⟩
theorem VW.x {b : Bh} (V : VW b) : VW (xB b) := { V with brk := rfl }
theorem VW.y {b : Bh} (V : VW b) : VW (yB b) := { V with rch := (by show (0 : Int) ≤ 0 ∧ (0 : Int) ≤ 4; omega) }
theorem uT {b : Bh} (V : VW b) (h4 : b.brk.length ≤ 4) (h5 : b.nts.length ≤ 5) : bB b = 0 := by
  have a1 := V.last
  have a2 := V.rws
  have a3 := V.pls
  have hb : Bb b = false := by
    cases h : Bb b with
    | false => rfl
    | true => have := fV.1 h; omega
  unfold bB
  rw [hb, if_neg (by decide), if_pos (VW.iff.2 V)]
theorem En {b : Bh} (V : VW b) (m : Nat) (hw : ∀ w ∈ b.winds, 0 < w.length) : Fj (lQ b) (CB b.winds m b.winds.length) = true := by
  rw [← Ep V, uM]
  refine ⟨Fe _ _ _, fun i hi => ?_⟩
  have e : (CB b.winds m b.winds.length).getD i 0 = (b.winds.getD i default).getD (Fk b.winds m i % (b.winds.getD i default).length) 0 := by simp [CB, List.getD, hi]
  rw [e]
  exact aL (Nat.mod_lt _ (hw _ (aL hi)))
variable {P : Program} {nt : Nat}
theorem SeqZ.u {c : RC} {x z : X} {K : Ex -> X -> Prop} (us : List (Pos × Option D)) (S : X.upK [] us [] x.nx x fun z' => ShrB (fun id => id.nat < x.nx.nat) z z') (h : X.upK [] us [] x.nx x fun z' => Rn P nt c z' K) : SeqZ P nt c x K .normal z := by
 rw [X.upK_eq] at S h
 exact ⟨rfl, _, _, S, fun id h => h, fun id h => h, Nat.le_refl _, h⟩
set_option maxRecDepth 1000000
def NJ : RC := (.seq (.reg [(.u (.box p3 (.t p1))), (.u (.mv p5 (.k (.b false))))]) (.seq (.seq (.reg [(gC cJ p3 9), (.u (.cf (some dA) p59 [(.t cJ)])), (.u (.un dB .not (.t dA)))]) (.cond (.t dB) (.seq (.reg [(.u (.cf (some eG) p22 [])), (Mv p5 eG)]) .ret) .skip)) (.seq (.reg [(gC p20 p3 9), (.u (.new p6 [(.i .i64 0), (.i .i64 0), (.i .i64 0), (.i .i64 0), .ns, .ns, .ns, .ns, .ns])), (.u (.st (.t p6) (.t p20) 9))]) (.seq (.reg [(Fd p21 p6 8), (.u (.st (.t p21) (.k .ns) 1))]) (.seq (.reg [(gC p22 p3 9), (Mv fJ p2), (.u (.cf (some p24) p61 [(.t p22), (.t fJ)])), (Mv p7 p24)]) (.seq (.reg [(gC p26 p6 9), (.u (.cf (some iG) p24 [(.t p26)])), (Mv p28 p7), (.u (.cf (some p29) p25 [(.t p28)])), (.u (.cf (some gU) p43 [(.t iG), (.t p29)])), (Mv p25 gU), (.u (.ext kA (.t p25) 0)), (.u (.ext lF (.t p25) 1)), (.u (.new p8 [(.i .i64 0), (.i .i64 0)])), (.u (.st (.t p8) (.t kA) 2)), (Mv p9 lF)]) (.seq (.reg [(.u (.mv bI (.k (.i .i64 0)))), (.u (.mv p11 (.k (.i .i64 0))))]) (.seq (.seq (.reg [(.u (.mv bO (.k (.i .i64 0))))]) (.blk 0 (.loop (.seq (.seq (.reg [(Mv kY bO), (Fd nM p3 0), (L1 iX nM), (fF oA .leq kY iX)]) (.cond (.t oA) .skip (.exit 0))) (.seq (.blk 1 (.seq (.reg [(gC rH p6 9), (.u (.new bM [(.i .i64 0), (.i .i64 0), (.i .i64 0), (.i .i64 0), .ns, .ns, .ns, .ns, .ns])), (.u (.st (.t bM) (.t rH) 9))]) (.seq (.drw [(Fd wU p3 5), (L1 tM wU), (Mv p42 bO), (.u (.ixs p43 1 (.t tM) (.t p42))), (L1 p44 p43), (.u (.bsl p45 1 1 [(.i .i64 0)] [(0, (1, (.t p44)))])), (Fd rQ p3 6), (L1 xY rQ), (Mv yO bO), (.u (.ixs p49 1 (.t xY) (.t yO))), (L1 yR p49), (.u (.cf (some Bo) p26 [(.t yR)])), (.u (.bsl nD 1 1 [.ns] [(0, (1, (.t Bo)))])), (Fd xD bM 0), (.u (.st (.t xD) (.k (.i .i64 0)) 1)), (Fd xZ bM 5), (.u (.st (.t xZ) (.t p45) 1)), (Fd wZ bM 6), (.u (.st (.t wZ) (.t nD) 1))] [0, 1, 0, 7, 15, 31, 0, 64, 0, 448, 960, 1984, 4032, 0, 12224, 28671, 61439, 131071, 262143]) (.seq (.drw [(gC yQ bM 9), (.u (.cf (some yD) p24 [(.t yQ)])), (Mv p59 p7), (Mv rS bO), (.u (.ixs p61 1 (.t p59) (.t rS))), (L1 zX p61), (.u (.cf (some uK) p26 [(.t zX)])), (.u (.bsl xJ 1 1 [.ns] [(0, (1, (.t uK)))])), (.u (.cf (some yK) p43 [(.t yD), (.t xJ)])), (Mv wT yK), (.u (.ext yM (.t wT) 0)), (.u (.ext p67 (.t wT) 1)), (.u (.new bT [(.i .i64 0), (.i .i64 0)])), (.u (.st (.t bT) (.t yM) 2)), (Mv bV p67)] [0, 1, 0, 0, 12, 28, 63, 127, 255, 511, 1023, 1023, 0, 6143, 16383]) (.seq (.seq (.reg [(Mv Bq bV), (eP pO .neq Bq 0)]) (.cond (.t pO) (.seq (.reg [(.u (.mv p5 (.k (.b false))))]) .ret) .skip)) (.drw [(Mv Bn bI), (Fd Bg bT 0), (L1 AO Bg), (fF Bl .add Bn AO), (Mv Bw p11), (Fd Bp bT 1), (L1 BE Bp), (fF xC .add Bw BE), (Mv bI Bl), (Mv p11 xC)] [0, 0, 2, 7, 0, 0, 32, 112, 15, 511])))))) (.reg [(Mv oK bO), (eP qY .add oK 1), (Mv bO qY)])))))) (.seq (.drw [(Mv p78 p9), (eP Ei .eql p78 0), (Mv yF Ei), (.g yF true (some Eg) (.ldn Eg (.t p8) 2)), (.g yF true (some p82) (.mv p82 (.t bI))), (.g yF true (some Ej) (.mv Ej (.t p11))), (.g yF true (some p84) (.cf (some p84) p67 [(.t p82), (.t Ej)])), (.g yF true (some FC) (.eqr FC false [(.i .i64), (.i .i64)] (.t Eg) (.t p84))), (.u (.pick GT (.t yF) (.t FC) (.k (.b false)))), (Mv Fo GT), (.g Fo true (some p88) (.cf (some p88) p22 [])), (.u (.pick p89 (.t Fo) (.t p88) (.k (.b false)))), (Mv p5 p89)] [0, 1, 3, 7, 7, 7, 55, 127, 255, 511, 1023, 2047, 4095]) .ret)))))))))
def Ni : List RR := [(.t p5)]
theorem Mk : FnOk Tryz.prog p11.ix 89 NJ Ni := ⟨Tryz.f10, aN Tryz.f10, Tryz.func10, by kernel_rfl, by kernel_rfl, by kernel_rfl, by kernel_rfl, by kernel_rfl⟩
end Go.Ev
end
