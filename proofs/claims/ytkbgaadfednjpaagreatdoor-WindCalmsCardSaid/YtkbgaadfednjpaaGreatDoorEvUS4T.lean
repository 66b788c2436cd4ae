import Derived.Test.YtkbgaadfednjpaaGreatDoorEvUFn
import Derived.Test.YtkbgaadfednjpaaGreatDoorProg
import Derived.Test.YtkbgaadfednjpaaGreatDoorEvU5h
set_option linter.all false
set_option maxHeartbeats 8000000
noncomputable section
namespace Go.Ev
open Go.Proofs
noncomputable def qH : T RF := (.n (.n (.n (.n (.n (.n (.n (.n .e (aA Tryz.prog 127) .e) (aA Tryz.prog 63) .e) (aA Tryz.prog 31) (.n (.n .e (aA Tryz.prog 159) .e) (aA Tryz.prog 95) .e)) none (.n (.n (.n .e (aA Tryz.prog 143) .e) (aA Tryz.prog 79) .e) (aA Tryz.prog 47) (.n .e (aA Tryz.prog 111) .e))) none (.n (.n (.n (.n .e (aA Tryz.prog 135) .e) (aA Tryz.prog 71) .e) (aA Tryz.prog 39) (.n .e (aA Tryz.prog 103) .e)) (aA Tryz.prog 23) (.n (.n (.n .e (aA Tryz.prog 151) .e) (aA Tryz.prog 87) .e) (aA Tryz.prog 55) (.n .e (aA Tryz.prog 119) .e)))) none (.n (.n (.n (.n (.n .e (aA Tryz.prog 131) .e) (aA Tryz.prog 67) .e) (aA Tryz.prog 35) (.n .e (aA Tryz.prog 99) .e)) (aA Tryz.prog 19) (.n (.n (.n .e (aA Tryz.prog 147) .e) (aA Tryz.prog 83) .e) (aA Tryz.prog 51) (.n .e (aA Tryz.prog 115) .e))) none (.n (.n (.n (.n .e (aA Tryz.prog 139) .e) (aA Tryz.prog 75) .e) (aA Tryz.prog 43) (.n .e (aA Tryz.prog 107) .e)) (aA Tryz.prog 27) (.n (.n (.n .e (aA Tryz.prog 155) .e) (aA Tryz.prog 91) .e) (aA Tryz.prog 59) (.n .e (aA Tryz.prog 123) .e))))) none (.n (.n (.n (.n (.n (.n .e (aA Tryz.prog 129) .e) (aA Tryz.prog 65) .e) (aA Tryz.prog 33) (.n (.n .e (aA Tryz.prog 161) .e) (aA Tryz.prog 97) .e)) none (.n (.n (.n .e (aA Tryz.prog 145) .e) (aA Tryz.prog 81) .e) (aA Tryz.prog 49) (.n .e (aA Tryz.prog 113) .e))) none (.n (.n (.n (.n .e (aA Tryz.prog 137) .e) (aA Tryz.prog 73) .e) (aA Tryz.prog 41) (.n .e (aA Tryz.prog 105) .e)) (aA Tryz.prog 25) (.n (.n (.n .e (aA Tryz.prog 153) .e) (aA Tryz.prog 89) .e) (aA Tryz.prog 57) (.n .e (aA Tryz.prog 121) .e)))) none (.n (.n (.n (.n (.n .e (aA Tryz.prog 133) .e) (aA Tryz.prog 69) .e) (aA Tryz.prog 37) (.n .e (aA Tryz.prog 101) .e)) (aA Tryz.prog 21) (.n (.n (.n .e (aA Tryz.prog 149) .e) (aA Tryz.prog 85) .e) (aA Tryz.prog 53) (.n .e (aA Tryz.prog 117) .e))) none (.n (.n (.n (.n .e (aA Tryz.prog 141) .e) (aA Tryz.prog 77) .e) (aA Tryz.prog 45) (.n .e (aA Tryz.prog 109) .e)) (aA Tryz.prog 29) (.n (.n (.n .e (aA Tryz.prog 157) .e) (aA Tryz.prog 93) .e) (aA Tryz.prog 61) (.n .e (aA Tryz.prog 125) .e)))))) none (.n (.n (.n (.n (.n (.n (.n .e (aA Tryz.prog 128) .e) (aA Tryz.prog 64) .e) (aA Tryz.prog 32) (.n (.n .e (aA Tryz.prog 160) .e) (aA Tryz.prog 96) .e)) none (.n (.n (.n .e (aA Tryz.prog 144) .e) (aA Tryz.prog 80) .e) (aA Tryz.prog 48) (.n .e (aA Tryz.prog 112) .e))) none (.n (.n (.n (.n .e (aA Tryz.prog 136) .e) (aA Tryz.prog 72) .e) (aA Tryz.prog 40) (.n .e (aA Tryz.prog 104) .e)) (aA Tryz.prog 24) (.n (.n (.n .e (aA Tryz.prog 152) .e) (aA Tryz.prog 88) .e) (aA Tryz.prog 56) (.n .e (aA Tryz.prog 120) .e)))) none (.n (.n (.n (.n (.n .e (aA Tryz.prog 132) .e) (aA Tryz.prog 68) .e) (aA Tryz.prog 36) (.n .e (aA Tryz.prog 100) .e)) (aA Tryz.prog 20) (.n (.n (.n .e (aA Tryz.prog 148) .e) (aA Tryz.prog 84) .e) (aA Tryz.prog 52) (.n .e (aA Tryz.prog 116) .e))) none (.n (.n (.n (.n .e (aA Tryz.prog 140) .e) (aA Tryz.prog 76) .e) (aA Tryz.prog 44) (.n .e (aA Tryz.prog 108) .e)) (aA Tryz.prog 28) (.n (.n (.n .e (aA Tryz.prog 156) .e) (aA Tryz.prog 92) .e) (aA Tryz.prog 60) (.n .e (aA Tryz.prog 124) .e))))) none (.n (.n (.n (.n (.n (.n .e (aA Tryz.prog 130) .e) (aA Tryz.prog 66) .e) (aA Tryz.prog 34) (.n .e (aA Tryz.prog 98) .e)) none (.n (.n (.n .e (aA Tryz.prog 146) .e) (aA Tryz.prog 82) .e) (aA Tryz.prog 50) (.n .e (aA Tryz.prog 114) .e))) none (.n (.n (.n (.n .e (aA Tryz.prog 138) .e) (aA Tryz.prog 74) .e) (aA Tryz.prog 42) (.n .e (aA Tryz.prog 106) .e)) (aA Tryz.prog 26) (.n (.n (.n .e (aA Tryz.prog 154) .e) (aA Tryz.prog 90) .e) (aA Tryz.prog 58) (.n .e (aA Tryz.prog 122) .e)))) none (.n (.n (.n (.n (.n .e (aA Tryz.prog 134) .e) (aA Tryz.prog 70) .e) (aA Tryz.prog 38) (.n .e (aA Tryz.prog 102) .e)) (aA Tryz.prog 22) (.n (.n (.n .e (aA Tryz.prog 150) .e) (aA Tryz.prog 86) .e) (aA Tryz.prog 54) (.n .e (aA Tryz.prog 118) .e))) none (.n (.n (.n (.n .e (aA Tryz.prog 142) .e) (aA Tryz.prog 78) .e) (aA Tryz.prog 46) (.n .e (aA Tryz.prog 110) .e)) (aA Tryz.prog 30) (.n (.n (.n .e (aA Tryz.prog 158) .e) (aA Tryz.prog 94) .e) (aA Tryz.prog 62) (.n .e (aA Tryz.prog 126) .e)))))))
set_option maxRecDepth 100000 in
theorem iN : FPok Tryz.prog qH := FPok.of (TabOk.n TabOk.no (TabOk.n TabOk.no (TabOk.n TabOk.no (TabOk.n TabOk.no (TabOk.n TabOk.no (TabOk.n TabOk.at (TabOk.n TabOk.at (TabOk.n TabOk.at TabOk.e TabOk.e) TabOk.e) (TabOk.n TabOk.at (TabOk.n TabOk.at TabOk.e TabOk.e) TabOk.e)) (TabOk.n TabOk.at (TabOk.n TabOk.at (TabOk.n TabOk.at TabOk.e TabOk.e) TabOk.e) (TabOk.n TabOk.at TabOk.e TabOk.e))) (TabOk.n TabOk.at (TabOk.n TabOk.at (TabOk.n TabOk.at (TabOk.n TabOk.at TabOk.e TabOk.e) TabOk.e) (TabOk.n TabOk.at TabOk.e TabOk.e)) (TabOk.n TabOk.at (TabOk.n TabOk.at (TabOk.n TabOk.at TabOk.e TabOk.e) TabOk.e) (TabOk.n TabOk.at TabOk.e TabOk.e)))) (TabOk.n TabOk.no (TabOk.n TabOk.at (TabOk.n TabOk.at (TabOk.n TabOk.at (TabOk.n TabOk.at TabOk.e TabOk.e) TabOk.e) (TabOk.n TabOk.at TabOk.e TabOk.e)) (TabOk.n TabOk.at (TabOk.n TabOk.at (TabOk.n TabOk.at TabOk.e TabOk.e) TabOk.e) (TabOk.n TabOk.at TabOk.e TabOk.e))) (TabOk.n TabOk.at (TabOk.n TabOk.at (TabOk.n TabOk.at (TabOk.n TabOk.at TabOk.e TabOk.e) TabOk.e) (TabOk.n TabOk.at TabOk.e TabOk.e)) (TabOk.n TabOk.at (TabOk.n TabOk.at (TabOk.n TabOk.at TabOk.e TabOk.e) TabOk.e) (TabOk.n TabOk.at TabOk.e TabOk.e))))) (TabOk.n TabOk.no (TabOk.n TabOk.no (TabOk.n TabOk.no (TabOk.n TabOk.at (TabOk.n TabOk.at (TabOk.n TabOk.at TabOk.e TabOk.e) TabOk.e) (TabOk.n TabOk.at (TabOk.n TabOk.at TabOk.e TabOk.e) TabOk.e)) (TabOk.n TabOk.at (TabOk.n TabOk.at (TabOk.n TabOk.at TabOk.e TabOk.e) TabOk.e) (TabOk.n TabOk.at TabOk.e TabOk.e))) (TabOk.n TabOk.at (TabOk.n TabOk.at (TabOk.n TabOk.at (TabOk.n TabOk.at TabOk.e TabOk.e) TabOk.e) (TabOk.n TabOk.at TabOk.e TabOk.e)) (TabOk.n TabOk.at (TabOk.n TabOk.at (TabOk.n TabOk.at TabOk.e TabOk.e) TabOk.e) (TabOk.n TabOk.at TabOk.e TabOk.e)))) (TabOk.n TabOk.no (TabOk.n TabOk.at (TabOk.n TabOk.at (TabOk.n TabOk.at (TabOk.n TabOk.at TabOk.e TabOk.e) TabOk.e) (TabOk.n TabOk.at TabOk.e TabOk.e)) (TabOk.n TabOk.at (TabOk.n TabOk.at (TabOk.n TabOk.at TabOk.e TabOk.e) TabOk.e) (TabOk.n TabOk.at TabOk.e TabOk.e))) (TabOk.n TabOk.at (TabOk.n TabOk.at (TabOk.n TabOk.at (TabOk.n TabOk.at TabOk.e TabOk.e) TabOk.e) (TabOk.n TabOk.at TabOk.e TabOk.e)) (TabOk.n TabOk.at (TabOk.n TabOk.at (TabOk.n TabOk.at TabOk.e TabOk.e) TabOk.e) (TabOk.n TabOk.at TabOk.e TabOk.e)))))) (TabOk.n TabOk.no (TabOk.n TabOk.no (TabOk.n TabOk.no (TabOk.n TabOk.no (TabOk.n TabOk.at (TabOk.n TabOk.at (TabOk.n TabOk.at TabOk.e TabOk.e) TabOk.e) (TabOk.n TabOk.at (TabOk.n TabOk.at TabOk.e TabOk.e) TabOk.e)) (TabOk.n TabOk.at (TabOk.n TabOk.at (TabOk.n TabOk.at TabOk.e TabOk.e) TabOk.e) (TabOk.n TabOk.at TabOk.e TabOk.e))) (TabOk.n TabOk.at (TabOk.n TabOk.at (TabOk.n TabOk.at (TabOk.n TabOk.at TabOk.e TabOk.e) TabOk.e) (TabOk.n TabOk.at TabOk.e TabOk.e)) (TabOk.n TabOk.at (TabOk.n TabOk.at (TabOk.n TabOk.at TabOk.e TabOk.e) TabOk.e) (TabOk.n TabOk.at TabOk.e TabOk.e)))) (TabOk.n TabOk.no (TabOk.n TabOk.at (TabOk.n TabOk.at (TabOk.n TabOk.at (TabOk.n TabOk.at TabOk.e TabOk.e) TabOk.e) (TabOk.n TabOk.at TabOk.e TabOk.e)) (TabOk.n TabOk.at (TabOk.n TabOk.at (TabOk.n TabOk.at TabOk.e TabOk.e) TabOk.e) (TabOk.n TabOk.at TabOk.e TabOk.e))) (TabOk.n TabOk.at (TabOk.n TabOk.at (TabOk.n TabOk.at (TabOk.n TabOk.at TabOk.e TabOk.e) TabOk.e) (TabOk.n TabOk.at TabOk.e TabOk.e)) (TabOk.n TabOk.at (TabOk.n TabOk.at (TabOk.n TabOk.at TabOk.e TabOk.e) TabOk.e) (TabOk.n TabOk.at TabOk.e TabOk.e))))) (TabOk.n TabOk.no (TabOk.n TabOk.no (TabOk.n TabOk.no (TabOk.n TabOk.at (TabOk.n TabOk.at (TabOk.n TabOk.at TabOk.e TabOk.e) TabOk.e) (TabOk.n TabOk.at TabOk.e TabOk.e)) (TabOk.n TabOk.at (TabOk.n TabOk.at (TabOk.n TabOk.at TabOk.e TabOk.e) TabOk.e) (TabOk.n TabOk.at TabOk.e TabOk.e))) (TabOk.n TabOk.at (TabOk.n TabOk.at (TabOk.n TabOk.at (TabOk.n TabOk.at TabOk.e TabOk.e) TabOk.e) (TabOk.n TabOk.at TabOk.e TabOk.e)) (TabOk.n TabOk.at (TabOk.n TabOk.at (TabOk.n TabOk.at TabOk.e TabOk.e) TabOk.e) (TabOk.n TabOk.at TabOk.e TabOk.e)))) (TabOk.n TabOk.no (TabOk.n TabOk.at (TabOk.n TabOk.at (TabOk.n TabOk.at (TabOk.n TabOk.at TabOk.e TabOk.e) TabOk.e) (TabOk.n TabOk.at TabOk.e TabOk.e)) (TabOk.n TabOk.at (TabOk.n TabOk.at (TabOk.n TabOk.at TabOk.e TabOk.e) TabOk.e) (TabOk.n TabOk.at TabOk.e TabOk.e))) (TabOk.n TabOk.at (TabOk.n TabOk.at (TabOk.n TabOk.at (TabOk.n TabOk.at TabOk.e TabOk.e) TabOk.e) (TabOk.n TabOk.at TabOk.e TabOk.e)) (TabOk.n TabOk.at (TabOk.n TabOk.at (TabOk.n TabOk.at TabOk.e TabOk.e) TabOk.e) (TabOk.n TabOk.at TabOk.e TabOk.e)))))))
set_option maxRecDepth 100000
def fM (r p : Nat) : List (Int × Int) := (List.range r).flatMap fun (i : Nat) => (List.range p).map fun (j : Nat) => ((i : Int), (j : Int))
def lT (r p : Int) : List D := [.ag [.any, .i .i64 r, .i .i64 p, .any, .any, .any, .any, .any, .any]]
def kE : Pos := p104
set_option maxRecDepth 1000000
theorem JQ : eZ Tryz.prog qH 100000 kE (lT (.ofNat 1) (.ofNat 1)) = some (.lst 2 (aC aV (fM 1 1))) := by kernel_rfl
theorem KQ : eZ Tryz.prog qH 100000 kE (lT (.ofNat 1) (.ofNat 2)) = some (.lst 2 (aC aV (fM 1 2))) := by kernel_rfl
theorem MB : eZ Tryz.prog qH 100000 kE (lT (.ofNat 1) (.ofNat 3)) = some (.lst 2 (aC aV (fM 1 3))) := by kernel_rfl
theorem MR : eZ Tryz.prog qH 100000 kE (lT (.ofNat 1) (.ofNat 4)) = some (.lst 2 (aC aV (fM 1 4))) := by kernel_rfl
theorem JS : eZ Tryz.prog qH 100000 kE (lT (.ofNat 1) (.ofNat 5)) = some (.lst 2 (aC aV (fM 1 5))) := by kernel_rfl
theorem Mh : eZ Tryz.prog qH 100000 kE (lT (.ofNat 2) (.ofNat 1)) = some (.lst 2 (aC aV (fM 2 1))) := by kernel_rfl
theorem Ju : eZ Tryz.prog qH 100000 kE (lT (.ofNat 2) (.ofNat 2)) = some (.lst 2 (aC aV (fM 2 2))) := by kernel_rfl
theorem Lq : eZ Tryz.prog qH 100000 kE (lT (.ofNat 2) (.ofNat 3)) = some (.lst 2 (aC aV (fM 2 3))) := by kernel_rfl
theorem Nk : eZ Tryz.prog qH 100000 kE (lT (.ofNat 2) (.ofNat 4)) = some (.lst 2 (aC aV (fM 2 4))) := by kernel_rfl
theorem KR : eZ Tryz.prog qH 100000 kE (lT (.ofNat 2) (.ofNat 5)) = some (.lst 2 (aC aV (fM 2 5))) := by kernel_rfl
theorem Ld : eZ Tryz.prog qH 100000 kE (lT (.ofNat 3) (.ofNat 1)) = some (.lst 2 (aC aV (fM 3 1))) := by kernel_rfl
theorem MJ : eZ Tryz.prog qH 100000 kE (lT (.ofNat 3) (.ofNat 2)) = some (.lst 2 (aC aV (fM 3 2))) := by kernel_rfl
theorem Mj : eZ Tryz.prog qH 100000 kE (lT (.ofNat 3) (.ofNat 3)) = some (.lst 2 (aC aV (fM 3 3))) := by kernel_rfl
theorem Ky : eZ Tryz.prog qH 100000 kE (lT (.ofNat 3) (.ofNat 4)) = some (.lst 2 (aC aV (fM 3 4))) := by kernel_rfl
theorem MH : eZ Tryz.prog qH 100000 kE (lT (.ofNat 3) (.ofNat 5)) = some (.lst 2 (aC aV (fM 3 5))) := by kernel_rfl
theorem ED (b : Bh) (V : VW b) : PureF Tryz.prog p104.ix [.ag (dW b)] (.lst 2 (aC aV (fM b.rws.toNat b.pls.toNat))) := by
  have q1 := V.rws
  have q2 := V.pls
  have key : ∀ r p : Nat, b.rws = .ofNat r → b.pls = .ofNat p → eZ Tryz.prog qH 100000 kE (lT (.ofNat r) (.ofNat p)) = some (.lst 2 (aC aV (fM r p))) → PureF Tryz.prog p104.ix [.ag (dW b)] (.lst 2 (aC aV (fM b.rws.toNat b.pls.toNat))) := fun r p h1 h2 h => by
    have h3 := PureF.mem iN (f := kE) (ds := [.ag (dW b)]) h (.cons (.ag (.cons .any (.cons (.i h1) (.cons (.i h2) (.cons .any (.cons .any (.cons .any (.cons .any (.cons .any (.cons .any .nil)))))))))) .nil)
    rw [h1, h2]
    exact h3
  rcases (show b.rws = 1 ∨ b.rws = 2 ∨ b.rws = 3 by omega) with h1 | h1 | h1 <;> rcases (show b.pls = 1 ∨ b.pls = 2 ∨ b.pls = 3 ∨ b.pls = 4 ∨ b.pls = 5 by omega) with h2 | h2 | h2 | h2 | h2
  · exact key 1 1 h1 h2 JQ
  · exact key 1 2 h1 h2 KQ
  · exact key 1 3 h1 h2 MB
  · exact key 1 4 h1 h2 MR
  · exact key 1 5 h1 h2 JS
  · exact key 2 1 h1 h2 Mh
  · exact key 2 2 h1 h2 Ju
  · exact key 2 3 h1 h2 Lq
  · exact key 2 4 h1 h2 Nk
  · exact key 2 5 h1 h2 KR
  · exact key 3 1 h1 h2 Ld
  · exact key 3 2 h1 h2 MJ
  · exact key 3 3 h1 h2 Mj
  · exact key 3 4 h1 h2 Ky
  · exact key 3 5 h1 h2 MH
set_option maxRecDepth 100000
def DW (n : Int) : Int := if n = -9223372036854775808 then 9223372036854775807 else n - 1
theorem EL {n : Int} (h : i64 n) : IntKind.i64.wrap (n - 1) = DW n := by
  have h1 := h.1
  have h2 := h.2
  unfold DW
  by_cases k : n = -9223372036854775808
  · rw [if_pos k, k]; rfl
  · rw [if_neg k]; exact InR.i64 (by omega) (by omega)
def HT (b : Bh) (p : Int × Int) : Bool := gQ p.1 0 (DW b.rws) && gQ p.2 0 (DW b.pls)
theorem Bd {b : Bh} (V : VW b) (p : Int × Int) : HT b p = cJ b p := by
  have h1 := V.rws
  have h2 := V.pls
  have e1 : DW b.rws = b.rws - 1 := if_neg (by omega)
  have e2 : DW b.pls = b.pls - 1 := if_neg (by omega)
  unfold HT cJ
  rw [e1, e2]
theorem AL (b : Bh) (p : Int × Int) (h1 : i64 b.rws) (h2 : i64 b.pls) : PureF Tryz.prog p99.ix [.ag (dW b), .ag (aV p)] (.b (HT b p)) := by
  have c1 := iM p.1 (DW b.rws)
  have c2 := iM p.2 (DW b.pls)
  refine PureF.run LL (by simp) (by simp [aR, Pu, aQ, aV]) ?_; conv => whnf
  unfold HT
  refine Rn.seq ?_; conv => whnf
  refine Rn.reg ?_; conv => whnf
  refine Rn.seq ?_; conv => whnf
  refine Rn.regN 5 ?_; conv => whnf
  refine WReg.cons (GR.sub (m := b.rws) (n := 1) (v := DW b.rws) (by rfl) (by rfl) (EL h1)) ?_
  cases k0 : gQ p.1 0 (DW b.rws) with
  | false =>
    rw [k0] at c1
    refine WReg.at ?_; conv => whnf
    repeat' first | ((first | refine Qz ?_ | refine Qf (c1) ?_ | with_reducible (first | refine Qm ?_ | refine Qn ?_ | refine Qo ?_ | refine Qp ?_ | refine WB.nt ?_ | refine WB.nf ?_ | refine WB.dec (fun h => ?_) (fun h => ?_) | refine WB.ndec (fun h => ?_) (fun h => ?_)) | refine WB.mk (fun h => ?_) (fun h => ?_)) <;> conv => whnf) | (refine WB.tt ?_; conv => whnf) | (refine WB.ff ?_; conv => whnf)
    exact Fin.b rfl rfl
  | true =>
  rw [k0] at c1
  refine WReg.N 7 ?_; conv => whnf
  repeat' first | ((first | refine Qz ?_ | refine Qf (c1) ?_ | with_reducible (first | refine Qm ?_ | refine Qn ?_ | refine Qo ?_ | refine Qp ?_ | refine WB.nt ?_ | refine WB.nf ?_ | refine WB.dec (fun h => ?_) (fun h => ?_) | refine WB.ndec (fun h => ?_) (fun h => ?_)) | refine WB.mk (fun h => ?_) (fun h => ?_)) <;> conv => whnf) | (refine WB.tt ?_; conv => whnf) | (refine WB.ff ?_; conv => whnf)
  refine WReg.cons (GR.subG (m := b.pls) (n := 1) (v := DW b.pls) (by rfl) (by rfl) (by rfl) (EL h2)) ?_
  refine WReg.at ?_; conv => whnf
  repeat' first | ((first | refine Qz ?_ | refine Qf (c2) ?_ | with_reducible (first | refine Qm ?_ | refine Qn ?_ | refine Qo ?_ | refine Qp ?_ | refine WB.nt ?_ | refine WB.nf ?_ | refine WB.dec (fun h => ?_) (fun h => ?_) | refine WB.ndec (fun h => ?_) (fun h => ?_)) | refine WB.mk (fun h => ?_) (fun h => ?_)) <;> conv => whnf) | (refine WB.tt ?_; conv => whnf) | (refine WB.ff ?_; conv => whnf)
  all_goals first | exact Fin.b rfl rfl | exact Fin.b rfl (by simp_all)
def IP (lo hi : Int) : Int := if lo = 1 ∧ hi = 1 then 1 else if lo = 0 ∧ hi = 0 then 2 else 3
theorem CQ (lo hi : Int) (h1 : -1000 ≤ lo ∧ lo ≤ 1000) (h2 : -1000 ≤ hi ∧ hi ≤ 1000) : PureF Tryz.prog p101.ix [.ag (wS lo hi)] (.i .i64 (IP lo hi)) := by
  have w : ∀ n ∈ [lo, hi], tC .i64 n = true := fun n hn => gD (by simp at hn; omega)
  refine PureF.run LO (by simp) (by simp [aR, Pu, wS]) ?_; conv => whnf
  repeat' first | ((first | refine Qz ?_ | refine Qy ?_) <;> conv => whnf) | (refine WB.tt ?_; conv => whnf) | (refine WB.ff ?_; conv => whnf)
  refine WSt.eqrN (neg := false) (r := decide ([lo, hi] = [1, 1])) [lo, hi] [1, 1] rfl rfl rfl rfl w (by decide) rfl ?_; conv => whnf
  by_cases k1 : [lo, hi] = [1, 1]
  · have k : lo = 1 ∧ hi = 1 := by simpa using k1
    rw [decide_eq_true k1]
    repeat' first | ((first | refine Qz ?_ | refine Qy ?_) <;> conv => whnf) | (refine WB.tt ?_; conv => whnf) | (refine WB.ff ?_; conv => whnf)
    exact Fin.i rfl (by unfold IP; rw [if_pos k])
  rw [decide_eq_false k1]
  have k : ¬ (lo = 1 ∧ hi = 1) := by simpa using k1
  repeat' first | ((first | refine Qz ?_ | refine Qy ?_) <;> conv => whnf) | (refine WB.tt ?_; conv => whnf) | (refine WB.ff ?_; conv => whnf)
  refine WSt.eqrN (neg := false) (r := decide ([lo, hi] = [0, 0])) [lo, hi] [0, 0] rfl rfl rfl rfl w (by decide) rfl ?_; conv => whnf
  by_cases k2 : [lo, hi] = [0, 0]
  · have k' : lo = 0 ∧ hi = 0 := by simpa using k2
    rw [decide_eq_true k2]
    repeat' first | ((first | refine Qz ?_ | refine Qy ?_) <;> conv => whnf) | (refine WB.tt ?_; conv => whnf) | (refine WB.ff ?_; conv => whnf)
    exact Fin.i rfl (by unfold IP; rw [if_neg k, if_pos k'])
  · have k' : ¬ (lo = 0 ∧ hi = 0) := by simpa using k2
    rw [decide_eq_false k2]
    repeat' first | ((first | refine Qz ?_ | refine Qy ?_) <;> conv => whnf) | (refine WB.tt ?_; conv => whnf) | (refine WB.ff ?_; conv => whnf)
    exact Fin.i rfl (by unfold IP; rw [if_neg k, if_neg k'])
theorem GX {b : Bh} (V : VW b) : ∀ q ∈ fM b.rws.toNat b.pls.toNat, cJ b q = true := fun q hq => by
  obtain ⟨i, hi, hq⟩ := List.mem_flatMap.1 hq
  obtain ⟨j, hj, rfl⟩ := List.mem_map.1 hq
  exact xO (List.mem_range.1 hi) (List.mem_range.1 hj)
theorem EP {b : Bh} (V : VW b) : (fM b.rws.toNat b.pls.toNat).length ≤ 50 := by
  have q1 := V.rws
  have q2 := V.pls
  rcases (show b.rws = 1 ∨ b.rws = 2 ∨ b.rws = 3 by omega) with h1 | h1 | h1 <;> rcases (show b.pls = 1 ∨ b.pls = 2 ∨ b.pls = 3 ∨ b.pls = 4 ∨ b.pls = 5 by omega) with h2 | h2 | h2 | h2 | h2 <;> rw [h1, h2] <;> decide
theorem sF (b : Bh) (L : List (List Int)) (l1 : b.face.length ≤ 1000) (l2 : b.sun.length ≤ 1000) (l3 : b.winds.length ≤ 1000) (l6 : ∀ w ∈ b.winds, w.length ≤ 1000) (h1 : L.length ≤ 1000) (h2 : ∀ w ∈ L, w.length ≤ 1000) (hb : i64 b.last) (he : lU b (gS b L) (gN b) ≠ 0) : PureF Tryz.prog p43.ix [.ag (dW b), .lst 1 (aC bY L)] (.tp [.ag (wS 0 0), .i .i64 (lU b (gS b L) (gN b))]) := by
  have cP := uB b L hb h1 h2
  have cS := rF b (gS b L) l1 l2 l3 l6
  have e1 : pD b (gS b L) (gN b) = Hv := if_neg he
  rw [e1] at cS
  refine PureF.run Nh (by simp) (by simp [aR, dL, Pu, aQ, aE]) ?_; conv => whnf
  repeat' first | ((first | refine Qz ?_ | refine Qf (cP) ?_ | refine Qf (cS) ?_ | with_reducible (first | refine Qm ?_ | refine Qn ?_ | refine Qo ?_ | refine Qp ?_ | refine WB.nt ?_ | refine WB.nf ?_ | refine WB.dec (fun h => ?_) (fun h => ?_) | refine WB.ndec (fun h => ?_) (fun h => ?_)) | refine WB.mk (fun h => ?_) (fun h => ?_)) <;> conv => whnf) | (refine WB.tt ?_; conv => whnf) | (refine WB.ff ?_; conv => whnf)
  exact ⟨.inr rfl, _, rfl, .pu ⟨rN 0 0, trivial, trivial⟩⟩
def GJ (b : Bh) (S : Nat → Nat → Int) : List D := ME b S (fM b.rws.toNat b.pls.toNat) (fun x => x.good) 0 (b.last + 1).toNat
theorem EN (b : Bh) (L : List (List Int)) (l1 : b.face.length ≤ 1000) (l2 : b.sun.length ≤ 1000) (l3 : b.winds.length ≤ 1000) (l6 : ∀ w ∈ b.winds, w.length ≤ 1000) (h1 : L.length ≤ 1000) (h2 : ∀ w ∈ L, w.length ≤ 1000) (hf : aZ b = 0) (hp : gS b L = true) (hh : gN b = true) : PureF Tryz.prog p43.ix [.ag (dW b), .lst 1 (aC bY L)] (.tp [.ag (GJ b (bU L)), .i .i64 0]) := by
  have Z := fW hf
  have V := Z.v
  have hv := V.last
  have hr := V.rws
  have cP := rW b L (by omega) h1 h2
  have cS := rF b true l1 l2 l3 l6
  have e2 : lU b true (gN b) = 0 := by rw [hh]; exact Hp hf
  have e1 : pD b true (gN b) = dW b := if_pos e2
  rw [e1, e2] at cS
  rw [hp] at cP
  obtain ⟨p1, p2⟩ := nB.1 hp
  have cC := pW L (by omega) (fun w hw => by have := (p2 w hw).1; omega)
  have hne := nZ hh
  have cL := ED b V
  have cB := HD b V (bU L) KOk.good (fM b.rws.toNat b.pls.toNat) (GX V) (by have := Z.l4; omega) (EP V) 0 (b.last + 1).toNat b.last (by omega) (by omega) l6 (by have := Z.l5; omega) hne
  have cB : PureF Tryz.prog p102.ix [.ag (dW b), .ag (lS (bU L)), .ag (Du p105 (fM b.rws.toNat b.pls.toNat) 0 b.last)] (.ag (GJ b (bU L))) := cB
  refine PureF.run Nh (by simp) (by simp [aR, dL, Pu, aQ, aE]) ?_; conv => whnf
  repeat' first | ((first | refine Qz ?_ | refine Qf (cP) ?_ | refine Qf (cS) ?_ | refine Qf (cC) ?_ | refine Qf (cL) ?_ | refine Qf (cB) ?_ | with_reducible (first | refine Qm ?_ | refine Qn ?_ | refine Qo ?_ | refine Qp ?_ | refine WB.nt ?_ | refine WB.nf ?_ | refine WB.dec (fun h => ?_) (fun h => ?_) | refine WB.ndec (fun h => ?_) (fun h => ?_)) | refine WB.mk (fun h => ?_) (fun h => ?_)) <;> conv => whnf) | (refine WB.tt ?_; conv => whnf) | (refine WB.ff ?_; conv => whnf)
  exact ⟨.inr rfl, _, rfl, .pu ⟨⟨trivial, trivial, trivial⟩, trivial, trivial⟩⟩
def Bp (b : Bh) (L : List (List Int)) (p : Int × Int) (h : Int) : Bool := gS b L && (HT b p && gQ h 0 b.last)
theorem oD (b : Bh) (L : List (List Int)) (p : Int × Int) (h : Int) (l1 : b.face.length ≤ 1000) (l2 : b.sun.length ≤ 1000) (l3 : b.winds.length ≤ 1000) (l6 : ∀ w ∈ b.winds, w.length ≤ 1000) (h1 : L.length ≤ 1000) (h2 : ∀ w ∈ L, w.length ≤ 1000) (hb : i64 b.last ∧ i64 b.rws ∧ i64 b.pls) (he : lU b (Bp b L p h) (gN b) ≠ 0) : PureF Tryz.prog p41.ix [.ag (dW b), .lst 1 (aC bY L), .ag (aV p), .i .i64 h] (.tp [.i .i64 0, .i .i64 (lU b (Bp b L p h) (gN b))]) := by
  have cP := uB b L hb.1 h1 h2
  have cX := AL b p hb.2.1 hb.2.2
  have cU := iM h b.last
  have cS := rF b (Bp b L p h) l1 l2 l3 l6
  have e1 : pD b (Bp b L p h) (gN b) = Hv := if_neg he
  rw [e1] at cS
  have ht : Bp b L p h = (gS b L && (HT b p && gQ h 0 b.last)) := rfl
  generalize Bp b L p h = th at *
  refine PureF.run Jr (by simp) (by simp [aR, dL, Pu, aQ, aE, aV]) ?_; conv => whnf
  cases k1 : gS b L <;> cases k2 : HT b p <;> cases k3 : gQ h 0 b.last
  all_goals
    rw [k1, k2, k3] at ht
    rw [k1] at cP
    rw [k2] at cX
    rw [k3] at cU
    subst ht
    repeat' first | ((first | refine Qz ?_ | refine Qf (cP) ?_ | refine Qf (cX) ?_ | refine Qf (cU) ?_ | refine Qf (cS) ?_ | with_reducible (first | refine Qm ?_ | refine Qn ?_ | refine Qo ?_ | refine Qp ?_ | refine WB.nt ?_ | refine WB.nf ?_ | refine WB.dec (fun h => ?_) (fun h => ?_) | refine WB.ndec (fun h => ?_) (fun h => ?_)) | refine WB.mk (fun h => ?_) (fun h => ?_)) <;> conv => whnf) | (refine WB.tt ?_; conv => whnf) | (refine WB.ff ?_; conv => whnf)
    all_goals exact Fin.two (.inr rfl) rfl rfl (.pu trivial) (.pu trivial)
theorem Gx (b : Bh) (L : List (List Int)) (p : Int × Int) (h : Nat) (l1 : b.face.length ≤ 1000) (l2 : b.sun.length ≤ 1000) (l3 : b.winds.length ≤ 1000) (l6 : ∀ w ∈ b.winds, w.length ≤ 1000) (h1 : L.length ≤ 1000) (h2 : ∀ w ∈ L, w.length ≤ 1000) (hf : aZ b = 0) (hp : gS b L = true) (hs : cJ b p = true) (hh : (h : Int) ≤ b.last) (hW : gN b = true) : PureF Tryz.prog p41.ix [.ag (dW b), .lst 1 (aC bY L), .ag (aV p), .i .i64 (h : Int)] (.tp [.i .i64 (IP (oQ b (bU L) [p] (fun x => x.calm) h) (oO b (bU L) [p] (fun x => x.calm) h)), .i .i64 0]) := by
  have Z := fW hf
  have V := Z.v
  have hv := V.last
  have hr := V.rws
  have hq := V.pls
  have cP := rW b L (by omega) h1 h2
  have cX := AL b p ⟨by omega, by omega⟩ ⟨by omega, by omega⟩
  have cU := iM h b.last
  have cS := rF b true l1 l2 l3 l6
  have e2 : lU b true (gN b) = 0 := by rw [hW]; exact Hp hf
  have e1 : pD b true (gN b) = dW b := if_pos e2
  rw [e1, e2] at cS
  rw [hp] at cP
  rw [Bd V, hs] at cX
  rw [show gQ (h : Int) 0 b.last = true from decide_eq_true ⟨by omega, hh⟩] at cU
  obtain ⟨p1, p2⟩ := nB.1 hp
  have cC := pW L (by omega) (fun w hw => by have := (p2 w hw).1; omega)
  have hne := nZ hW
  have cB := HD b V (bU L) KOk.calm [p] (fun x hx => by rw [List.mem_singleton.1 hx]; exact hs) (by have := Z.l4; omega) (by simp) h 1 (h : Int) (by omega) (by omega) l6 (by have := Z.l5; omega) hne
  have b1 := Ey KOk.calm b (bU L) [p] (by simp) h
  have b2 := Ds KOk.calm b (bU L) [p] (by simp) h
  have eB : ME b (bU L) [p] (fun x => x.calm) h 1 = wS (oQ b (bU L) [p] (fun x => x.calm) h) (oO b (bU L) [p] (fun x => x.calm) h) := by
    have g : ∀ f : Nat → Int, jY f h (h + 1) = f h := fun f => by
      show (if h ≤ h then jY f h h + f h else 0) = _
      rw [if_pos (Nat.le_refl _), sV]; omega
    unfold ME wS
    rw [g, g]
  rw [eB] at cB
  have cV := CQ (oQ b (bU L) [p] (fun x => x.calm) h) (oO b (bU L) [p] (fun x => x.calm) h) (by omega) (by omega)
  refine PureF.run Jr (by simp) (by simp [aR, dL, Pu, aQ, aE, aV]) ?_; conv => whnf
  repeat' first | ((first | refine Qz ?_ | refine Qf (cP) ?_ | refine Qf (cX) ?_ | refine Qf (cU) ?_ | refine Qf (cS) ?_ | refine Qf (cC) ?_ | with_reducible (first | refine Qm ?_ | refine Qn ?_ | refine Qo ?_ | refine Qp ?_ | refine WB.nt ?_ | refine WB.nf ?_ | refine WB.dec (fun h => ?_) (fun h => ?_) | refine WB.ndec (fun h => ?_) (fun h => ?_)) | refine WB.mk (fun h => ?_) (fun h => ?_)) <;> conv => whnf) | (refine WB.tt ?_; conv => whnf) | (refine WB.ff ?_; conv => whnf)
  refine WCall.borrow1 cB (.o (.o .h)) (.cells false [.o (.i .i64 p.1) 0, .o (.i .i64 p.2) 0] 1) (.cons ?_ (.cons ?_ (.cons ?_ .nil))) ⟨trivial, trivial, trivial⟩ rfl rfl ?_
  · exact .pu (aQ b)
  · exact .pu (kY _)
  · exact .ag (.cons (Frz.whole (cur := 1) (es := aC aV [p]) rfl rfl (fun r hr => by obtain ⟨m, _, rfl⟩ := List.mem_map.1 hr; rfl) rfl (aF _)) (.cons (.pu trivial) (.cons (.pu trivial) (.cons (.pu ⟨trivial, trivial⟩) .nil))))
  conv => whnf
  repeat' first | ((first | refine Qz ?_ | refine Qf (cV) ?_ | with_reducible (first | refine Qm ?_ | refine Qn ?_ | refine Qo ?_ | refine Qp ?_ | refine WB.nt ?_ | refine WB.nf ?_ | refine WB.dec (fun h => ?_) (fun h => ?_) | refine WB.ndec (fun h => ?_) (fun h => ?_)) | refine WB.mk (fun h => ?_) (fun h => ?_)) <;> conv => whnf) | (refine WB.tt ?_; conv => whnf) | (refine WB.ff ?_; conv => whnf)
  exact Fin.two (.inr rfl) rfl rfl (.pu trivial) (.pu trivial)
theorem zS (l : List (List Hr)) : dL (aC aS l) := gR bB l
theorem Dt (l : List Hr) : dL (aC iB l) := gR kB l
theorem tK {B : Pos → Prop} {ob : T C} {d : D} (h : Pu d := by simp [Cell.d, Pu, aR, dL, aB, aF, aE, aQ, kY, rN, zS, bB, Dt, tN]; done) : Fz B ob d d := .pu h
def tY (a : Int) (R : List Hr) : Nat → Int
  | 0 => a
  | j + 1 => tY a R j + (R.getD j default).good
def AD (A : List (List Hr)) : Nat → Int
  | 0 => 0
  | i + 1 => tY (AD A i) (A.getD i default) (A.getD i default).length
theorem Ea (a : Int) (R : List Hr) : ∀ j, tY a R j = a + cR (fun p => (R.getD p default).good) j
  | 0 => by simp [tY, cR]
  | j + 1 => by
    show tY a R j + _ = a + (cR _ j + _)
    rw [Ea a R j, Int.add_assoc]
theorem As {a : Int} {R : List Hr} (h : ∀ x ∈ R, 0 ≤ x.good ∧ x.good ≤ 1000) : ∀ j : Nat, j ≤ R.length → a ≤ tY a R j ∧ tY a R j ≤ a + 1000 * j
  | 0, _ => by simp [tY]
  | j + 1, hj => by
    have h1 := As (a := a) h j (by omega)
    have h2 := h (R.getD j default) (aM (by omega))
    show a ≤ tY a R j + _ ∧ tY a R j + _ ≤ _
    omega
theorem Ai {A : List (List Hr)} (h : ∀ w ∈ A, w.length ≤ 1000 ∧ ∀ x ∈ w, 0 ≤ x.good ∧ x.good ≤ 1000) : ∀ i : Nat, i ≤ A.length → 0 ≤ AD A i ∧ AD A i ≤ 1000000 * i
  | 0, _ => by simp [AD]
  | i + 1, hi => by
    have h1 := Ai h i (by omega)
    have h2 := h (A.getD i default) (aM (by omega))
    have h3 := As (a := AD A i) h2.2 (A.getD i default).length (Nat.le_refl _)
    show 0 ≤ tY _ _ _ ∧ tY _ _ _ ≤ _
    omega
set_option maxHeartbeats 2000000 in
theorem Lm (A : List (List Hr)) (hA : A.length ≤ 1000) (hw : ∀ w ∈ A, w.length ≤ 1000 ∧ ∀ x ∈ w, 0 ≤ x.good ∧ x.good ≤ 1000) : PureF Tryz.prog p66.ix [.lst 1 (aC aS A)] (.i .i64 (AD A A.length)) := by
  have e1 := aH aS A
  refine PureF.run Qs (by simp) (by simp [aR, dL, Pu, zS]) ?_; conv => whnf
  repeat' first | ((first | refine Qz ?_ | refine Qy ?_) <;> conv => whnf) | (refine WB.tt ?_; conv => whnf) | (refine WB.ff ?_; conv => whnf)
  refine Rn.loopV [(p4, none), (p5, none), (p6, none), (p7, none), (p8, none), (p9, none), (bA, none), (bL, none), (bJ, none), (bH, none), (bO, none), (bP, none), (bV, none), (cG, none), (cY, none), (dH, none), (p20, none), (p21, none), (p22, none), (dU, none), (p24, none), (p25, none), (p26, none), (eS, none), (p28, none), (p29, none), (p30, none), (p31, none)] (fun i : Nat => [(p4, some (.i .i64 (AD A i))), (p5, some (.i .i64 (i : Int)))]) (fun i : Nat => []) (fun i : Nat => .h) (fun i : Nat => i ≤ A.length) (fun i : Nat => A.length - i) 0 ?_ ?_ ?_
  · conv => whnf
    (refine X.le.mk ?_ ?_ (Nat.le_refl _) rfl rfl) <;> (repeat' first | exact T.le_e _ | refine T.le_some ?_ rfl ?_ | refine T.le_none ?_ ?_ | refine T.le_ee ?_ ?_)
  rotate_left
  intro xl1 hxl1
  rotate_right
  · exact Nat.zero_le _
  intro i hi
  have hi : i ≤ A.length := hi
  have b1 := Ai hw i hi
  have hend : i = A.length → AD A A.length = AD A i := fun h => by rw [h]
  have hz : AD A (i + 1) = tY (AD A i) (A.getD i default) (A.getD i default).length := rfl
  generalize AD A i = a at *
  conv => whnf
  repeat' first | ((first | refine Qz ?_ | refine Qy ?_) <;> conv => whnf) | (refine WB.tt ?_; conv => whnf) | (refine WB.ff ?_; conv => whnf)
  refine WB.dec (fun hd => ?_) (fun hd => ?_) <;> conv => whnf
  rotate_left
  · repeat' first | ((first | refine Qz ?_ | refine Qy ?_) <;> conv => whnf) | (refine WB.tt ?_; conv => whnf) | (refine WB.ff ?_; conv => whnf)
    exact Fin.i rfl (hend (by omega)).symm
  have hlt : i < A.length := by omega
  have h2 := hw (A.getD i default) (aM hlt)
  have e2 := aH iB (A.getD i default)
  repeat' first | ((first | refine Qz ?_ | refine Qy ?_) <;> conv => whnf) | (refine WB.tt ?_; conv => whnf) | (refine WB.ff ?_; conv => whnf)
  refine Rn.loopV [(p4, none), (p6, none), (bH, none), (bO, none), (bP, none), (bV, none), (cG, none), (cY, none), (dH, none), (p20, none), (p21, none), (p22, none), (dU, none), (p24, none), (p25, none), (p26, none), (eS, none), (p28, none), (p29, none), (p30, none), (p31, none)] (fun j : Nat => [(p4, some (.i .i64 (tY a (A.getD i default) j))), (p6, some (.i .i64 (j : Int)))]) (fun j : Nat => []) (fun j : Nat => .h) (fun j : Nat => j ≤ (A.getD i default).length) (fun j : Nat => (A.getD i default).length - j) 0 ?_ ?_ ?_
  · conv => whnf
    (refine X.le.mk ?_ ?_ (Nat.le_refl _) rfl rfl) <;> (repeat' first | exact T.le_e _ | refine T.le_some ?_ rfl ?_ | refine T.le_none ?_ ?_ | refine T.le_ee ?_ ?_)
  rotate_left
  intro xl2 hxl2
  rotate_right
  · exact Nat.zero_le _
  intro j hj
  have hj : j ≤ (A.getD i default).length := hj
  have b2 := As (a := a) h2.2 j hj
  have hs : tY a (A.getD i default) (j + 1) = tY a (A.getD i default) j + ((A.getD i default).getD j default).good := rfl
  have hend2 : j = (A.getD i default).length → tY a (A.getD i default) (A.getD i default).length = tY a (A.getD i default) j := fun h => by rw [← h]
  have b3 : j < (A.getD i default).length → _ := fun h => h2.2 _ (aM (d := default) h)
  generalize tY a (A.getD i default) j = c at *
  conv => whnf
  repeat' first | ((first | refine Qz ?_ | refine Qy ?_) <;> conv => whnf) | (refine WB.tt ?_; conv => whnf) | (refine WB.ff ?_; conv => whnf)
  refine WB.dec (fun hd2 => ?_) (fun hd2 => ?_) <;> conv => whnf
  · have hlt2 : j < (A.getD i default).length := by omega
    have b3 := b3 hlt2
    repeat' first | ((first | refine Qz ?_ | refine Qy ?_) <;> conv => whnf) | (refine WB.tt ?_; conv => whnf) | (refine WB.ff ?_; conv => whnf)
    refine AgainB.v (j + 1) (by omega) (show j + 1 ≤ (A.getD i default).length by omega) (Nat.le_refl _) (by assumption) ?_
    rw [hs]
    conv => whnf
    refine Shr.of ?_ ?_ rfl rfl
    · (repeat' first | exact Rel.e | refine Rel.some ?_ ?_ ?_ | refine Rel.none ?_ ?_ | refine Rel.ee ?_ ?_)
      all_goals show Fz _ _ _ _
      all_goals first | exact Fq | exact tK
    · (repeat' first | exact Rel.e | refine Rel.some ?_ ?_ ?_ | refine Rel.none ?_ ?_ | refine Rel.ee ?_ ?_)
      all_goals refine FD ?_
      all_goals first | exact Sq | (refine ShC.same ?_; (repeat' first | exact ShC.nl | refine ShC.cn ?_ ?_) <;> first | exact Fq | exact tK)
  · repeat' first | ((first | refine Qz ?_ | refine Qy ?_) <;> conv => whnf) | (refine WB.tt ?_; conv => whnf) | (refine WB.ff ?_; conv => whnf)
    have e := hend2 (by omega)
    refine AgainB.v (i + 1) (by omega) (show i + 1 ≤ A.length by omega) (Nat.le_refl _) (by assumption) ?_
    rw [hz, e]
    conv => whnf
    refine Shr.of ?_ ?_ rfl rfl
    · (repeat' first | exact Rel.e | refine Rel.some ?_ ?_ ?_ | refine Rel.none ?_ ?_ | refine Rel.ee ?_ ?_)
      all_goals show Fz _ _ _ _
      all_goals first | exact Fq | exact tK
    · (repeat' first | exact Rel.e | refine Rel.some ?_ ?_ ?_ | refine Rel.none ?_ ?_ | refine Rel.ee ?_ ?_)
      all_goals refine FD ?_
      all_goals first | exact Sq | (refine ShC.same ?_; (repeat' first | exact ShC.nl | refine ShC.cn ?_ ?_) <;> first | exact Fq | exact tK)
def eL (b : Bh) (L : List (List Int)) (t : List Int) : Int := AD (oZ (IC b L t) b.rws.toNat b.pls.toNat) (oZ (IC b L t) b.rws.toNat b.pls.toNat).length
set_option maxHeartbeats 4000000 in
theorem FJ (b : Bh) (V : VW b) (L : List (List Int)) (hp : gS b L = true) (Ts : List (List Int)) (hT : ∀ t ∈ Ts, TruP b t) (hTl : Ts.length ≤ 1000) (l4 : b.brk.length ≤ 1000) : PureF Tryz.prog p47.ix [.ag (dW b), .lst 1 (aC bY Ts), .lst 1 (aC bY L)] (.ag (wS (zM (eL b L) Ts Ts.length) (zI (eL b L) Ts Ts.length))) := by
  have e1 := aH bY Ts
  have q1 := V.rws
  have q2 := V.pls
  have q3 := V.last
  refine PureF.run Oe (by simp) (by simp [aR, dL, Pu, aQ, aE]) ?_; conv => whnf
  repeat' first | ((first | refine Qz ?_ | refine Qf (Hg) ?_ | refine Qy ?_) <;> conv => whnf) | (refine WB.tt ?_; conv => whnf) | (refine WB.ff ?_; conv => whnf)
  refine Rn.loopV [(p9, none), (bL, none), (bJ, none), (bH, none), (bO, none), (bP, none), (bV, none), (cG, none), (cY, none), (dH, none), (p20, none), (p21, none), (p22, none), (dU, none), (p24, none), (p25, none), (p26, none)] (fun j : Nat => [(p9, some (.i .i64 (j : Int)))]) (fun j : Nat => [((.i .h), some (Ob (zM (eL b L) Ts j) (zI (eL b L) Ts j)))]) (fun j : Nat => (.o (.o .h))) (fun j : Nat => j ≤ Ts.length) (fun j : Nat => Ts.length - j) 0 ?_ ?_ ?_
  · conv => whnf
    (refine X.le.mk ?_ ?_ (Nat.le_refl _) rfl rfl) <;> (repeat' first | exact T.le_e _ | refine T.le_some ?_ rfl ?_ | refine T.le_none ?_ ?_ | refine T.le_ee ?_ ?_)
  rotate_left
  intro xl3 hxl3
  rotate_right
  · exact Nat.zero_le _
  intro j hj
  have hj : j ≤ Ts.length := hj
  have s1 : j < Ts.length → _ := fun h => EM (f := eL b L) h
  have s2 : j < Ts.length → _ := fun h => Gb (f := eL b L) h
  have hend : j = Ts.length → zM (eL b L) Ts Ts.length = zM (eL b L) Ts j ∧ zI (eL b L) Ts Ts.length = zI (eL b L) Ts j := fun h => by subst h; exact ⟨rfl, rfl⟩
  generalize zM (eL b L) Ts j = a1 at *
  generalize zI (eL b L) Ts j = a2 at *
  conv => whnf
  repeat' first | ((first | refine Qz ?_ | refine Qy ?_) <;> conv => whnf) | (refine WB.tt ?_; conv => whnf) | (refine WB.ff ?_; conv => whnf)
  refine WB.dec (fun hd2 => ?_) (fun hd2 => ?_) <;> conv => whnf
  · have hlt : j < Ts.length := by omega
    have s1 := s1 hlt
    have s2 := s2 hlt
    have tp := hT _ (aM (d := default) hlt)
    have tl := tp.len
    unfold hrs at tl
    have cP := GU b V L (Ts.getD j default) hp tp.len (Ki V tp) l4
    have cS := Lm (oZ (IC b L (Ts.getD j default)) b.rws.toNat b.pls.toNat) (by rw [oI]; omega) (fun w hw => by
      refine ⟨by rw [(qW hw).1]; omega, fun x hx => ?_⟩
      obtain ⟨r, p, rfl⟩ := (qW hw).2 x hx
      have := (mJ b (bU L) ((r : Int), (p : Int)) (Ts.getD j default) (Ts.getD j default).length).2.2
      show 0 ≤ (dJ b (bU L) ((r : Int), (p : Int)) (Ts.getD j default) (Ts.getD j default).length).good ∧ (dJ b (bU L) ((r : Int), (p : Int)) (Ts.getD j default) (Ts.getD j default).length).good ≤ 1000
      omega)
    have cS : PureF Tryz.prog p66.ix [.lst 1 (aC aS (oZ (IC b L (Ts.getD j default)) b.rws.toNat b.pls.toNat))] (.i .i64 (eL b L (Ts.getD j default))) := cS
    repeat' first | ((first | refine Qz ?_ | refine Qf (cP) ?_ | refine Qf (cS) ?_ | refine Qf (GF a1 a2 (eL b L (Ts.getD j default))) ?_ | refine Qy ?_) <;> conv => whnf) | (refine WB.tt ?_; conv => whnf) | (refine WB.ff ?_; conv => whnf)
    refine AgainB.v (j + 1) (by omega) (show j + 1 ≤ Ts.length by omega) (Nat.le_refl _) (by assumption) ?_
    rw [s1, s2]
    conv => whnf
    refine Shr.of ?_ ?_ rfl rfl
    · (repeat' first | exact Rel.e | refine Rel.some ?_ ?_ ?_ | refine Rel.none ?_ ?_ | refine Rel.ee ?_ ?_)
      all_goals show Fz _ _ _ _
      all_goals first | exact Fq | exact tK
    · (repeat' first | exact Rel.e | refine Rel.some ?_ ?_ ?_ | refine Rel.none ?_ ?_ | refine Rel.ee ?_ ?_)
      all_goals refine FD ?_
      all_goals first | exact Mz | exact Sq | (refine ShC.same ?_; (repeat' first | exact ShC.nl | refine ShC.cn ?_ ?_) <;> first | exact Fq | exact tK)
  · obtain ⟨e1, e2⟩ := hend (by omega)
    rw [e1, e2]
    repeat' first | ((first | refine Qz ?_ | refine Qy ?_) <;> conv => whnf) | (refine WB.tt ?_; conv => whnf) | (refine WB.ff ?_; conv => whnf)
    exact ⟨.inr rfl, _, rfl, .pu ⟨trivial, trivial, trivial⟩⟩
def tM (f : List Int → Bool) (Ts : List (List Int)) : Nat → Nat
  | 0 => 0
  | j + 1 => tM f Ts j + (if f (Ts.getD j default) = true then 1 else 0)
theorem Aw (f : List Int → Bool) (Ts : List (List Int)) : ∀ j, tM f Ts j ≤ j
  | 0 => Nat.le_refl _
  | j + 1 => by
    have := Aw f Ts j
    show tM f Ts j + _ ≤ _
    split <;> omega
def Kx (f : List Int → Bool) (Ts : List (List Int)) : Int := if tM f Ts Ts.length = Ts.length then 1 else if tM f Ts Ts.length = 0 then 2 else 3
def rB (b : Bh) (L : List (List Int)) (p : Int × Int) (h : Nat) (t : List Int) : Bool := tB b p (bU L h p.1.toNat) (t.getD h 0)
set_option maxHeartbeats 4000000 in
theorem Gt (b : Bh) (V : VW b) (L : List (List Int)) (hp : gS b L = true) (Ts : List (List Int)) (hT : ∀ t ∈ Ts, TruP b t) (hTl : Ts.length ≤ 1000) (l4 : b.brk.length ≤ 1000) (p : Int × Int) (hs : cJ b p = true) (h : Nat) (hh : (h : Int) ≤ b.last) : PureF Tryz.prog p46.ix [.ag (dW b), .lst 1 (aC bY Ts), .lst 1 (aC bY L), .ag (aV p), .i .i64 (h : Int)] (.i .i64 (Kx (rB b L p h) Ts)) := by
  have e1 := aH bY Ts
  have q1 := V.rws
  have q2 := V.pls
  have q3 := V.last
  obtain ⟨p1, p2⟩ := nB.1 hp
  have hs' := hs
  unfold cJ at hs'
  rw [Bool.and_eq_true] at hs'
  have s1 := aX hs'.1
  have hL : h < L.length := by omega
  have g1 := p2 _ (aM (d := default) hL)
  have gw : p.1.toNat < (L.getD h default).length := by have := g1.1; omega
  have hf := aX (hG (p := iC) (d := 0) g1.2 gw)
  refine PureF.run NZ (by simp) (by simp [aR, dL, Pu, aQ, aE, aV]) ?_; conv => whnf
  repeat' first | ((first | refine Qz ?_ | refine Qy ?_) <;> conv => whnf) | (refine WB.tt ?_; conv => whnf) | (refine WB.ff ?_; conv => whnf)
  refine Rn.loopV [(bJ, none), (bH, none), (bO, none), (bP, none), (bV, none), (cG, none), (cY, none), (dH, none), (p20, none), (p21, none), (p22, none), (dU, none), (p24, none), (p25, none), (p26, none), (eS, none), (p28, none), (p29, none), (p30, none), (p31, none), (p32, none), (iT, none), (p34, none), (iL, none), (mB, none), (p37, none), (oP, none), (oR, none)] (fun j : Nat => [(bJ, some (.i .i64 (tM (rB b L p h) Ts j : Int))), (bH, some (.i .i64 (j : Int)))]) (fun j : Nat => []) (fun j : Nat => (.i .h)) (fun j : Nat => j ≤ Ts.length) (fun j : Nat => Ts.length - j) 0 ?_ ?_ ?_
  · conv => whnf
    (refine X.le.mk ?_ ?_ (Nat.le_refl _) rfl rfl) <;> (repeat' first | exact T.le_e _ | refine T.le_some ?_ rfl ?_ | refine T.le_none ?_ ?_ | refine T.le_ee ?_ ?_)
  rotate_left
  intro xl4 hxl4
  rotate_right
  · exact Nat.zero_le _
  intro j hj
  have hj : j ≤ Ts.length := hj
  have hc := Aw (rB b L p h) Ts j
  have hz : tM (rB b L p h) Ts (j + 1) = tM (rB b L p h) Ts j + (if rB b L p h (Ts.getD j default) = true then 1 else 0) := rfl
  have hend : j = Ts.length → tM (rB b L p h) Ts Ts.length = tM (rB b L p h) Ts j := fun h => by rw [h]
  generalize tM (rB b L p h) Ts j = c at *
  conv => whnf
  repeat' first | ((first | refine Qz ?_ | refine Qy ?_) <;> conv => whnf) | (refine WB.tt ?_; conv => whnf) | (refine WB.ff ?_; conv => whnf)
  refine WB.dec (fun hd2 => ?_) (fun hd2 => ?_) <;> conv => whnf
  · have hlt : j < Ts.length := by omega
    have tp := hT _ (aM (d := default) hlt)
    have tl := tp.len
    unfold hrs at tl
    have ht : h < (Ts.getD j default).length := by omega
    have hd := Ki V tp _ (aM (d := 0) ht)
    have cS := gC b V p hs ((L.getD h default).getD p.1.toNat 0) ((Ts.getD j default).getD h 0) hf hd l4
    cases k : rB b L p h (Ts.getD j default) with
    | true =>
      rw [k, if_pos rfl] at hz
      have k' : tB b p ((L.getD h default).getD p.1.toNat 0) ((Ts.getD j default).getD h 0) = true := k
      rw [k'] at cS
      repeat' first | ((first | refine Qz ?_ | refine Qf (cS) ?_ | refine WIx.rowsM hL rfl ?_ | refine WIx.intsE (j := p.1.toNat) (by omega) gw ?_ | refine Qy ?_) <;> conv => whnf) | (refine WB.tt ?_; conv => whnf) | (refine WB.ff ?_; conv => whnf)
      refine AgainB.v (j + 1) (by omega) (show j + 1 ≤ Ts.length by omega) (Nat.le_refl _) (by assumption) ?_
      rw [hz]
      conv => whnf
      refine Shr.of ?_ ?_ rfl rfl
      · (repeat' first | exact Rel.e | refine Rel.some ?_ ?_ ?_ | refine Rel.none ?_ ?_ | refine Rel.ee ?_ ?_)
        all_goals show Fz _ _ _ _
        all_goals first | exact Fq | exact tK
      · (repeat' first | exact Rel.e | refine Rel.some ?_ ?_ ?_ | refine Rel.none ?_ ?_ | refine Rel.ee ?_ ?_)
        all_goals refine FD ?_
        all_goals first | exact Sq | (refine ShC.same ?_; (repeat' first | exact ShC.nl | refine ShC.cn ?_ ?_) <;> first | exact Fq | exact tK)
    | false =>
      rw [k, if_neg (by decide)] at hz
      have k' : tB b p ((L.getD h default).getD p.1.toNat 0) ((Ts.getD j default).getD h 0) = false := k
      rw [k'] at cS
      repeat' first | ((first | refine Qz ?_ | refine Qf (cS) ?_ | refine WIx.rowsM hL rfl ?_ | refine WIx.intsE (j := p.1.toNat) (by omega) gw ?_ | refine Qy ?_) <;> conv => whnf) | (refine WB.tt ?_; conv => whnf) | (refine WB.ff ?_; conv => whnf)
      refine AgainB.v (j + 1) (by omega) (show j + 1 ≤ Ts.length by omega) (Nat.le_refl _) (by assumption) ?_
      rw [hz]
      conv => whnf
      refine Shr.of ?_ ?_ rfl rfl
      · (repeat' first | exact Rel.e | refine Rel.some ?_ ?_ ?_ | refine Rel.none ?_ ?_ | refine Rel.ee ?_ ?_)
        all_goals show Fz _ _ _ _
        all_goals first | exact Fq | exact tK
      · (repeat' first | exact Rel.e | refine Rel.some ?_ ?_ ?_ | refine Rel.none ?_ ?_ | refine Rel.ee ?_ ?_)
        all_goals refine FD ?_
        all_goals first | exact Sq | (refine ShC.same ?_; (repeat' first | exact ShC.nl | refine ShC.cn ?_ ?_) <;> first | exact Fq | exact tK)
  · have he := hend (by omega)
    unfold Kx
    rw [he]
    by_cases k1 : c = Ts.length
    · rw [if_pos k1]
      repeat' first | ((first | refine Qz ?_ | with_reducible (first | refine Qm ?_ | refine Qn ?_ | refine Qo ?_ | refine Qp ?_ | refine WB.nt ?_ | refine WB.nf ?_ | refine WB.dec (fun h => ?_) (fun h => ?_) | refine WB.ndec (fun h => ?_) (fun h => ?_)) | refine WB.mk (fun h => ?_) (fun h => ?_)) <;> conv => whnf) | (refine WB.tt ?_; conv => whnf) | (refine WB.ff ?_; conv => whnf)
      exact Fin.i rfl rfl
    · rw [if_neg k1]
      by_cases k2 : c = 0
      · rw [if_pos k2]
        repeat' first | ((first | refine Qz ?_ | with_reducible (first | refine Qm ?_ | refine Qn ?_ | refine Qo ?_ | refine Qp ?_ | refine WB.nt ?_ | refine WB.nf ?_ | refine WB.dec (fun h => ?_) (fun h => ?_) | refine WB.ndec (fun h => ?_) (fun h => ?_)) | refine WB.mk (fun h => ?_) (fun h => ?_)) <;> conv => whnf) | (refine WB.tt ?_; conv => whnf) | (refine WB.ff ?_; conv => whnf)
        exact Fin.i rfl rfl
      · rw [if_neg k2]
        repeat' first | ((first | refine Qz ?_ | with_reducible (first | refine Qm ?_ | refine Qn ?_ | refine Qo ?_ | refine Qp ?_ | refine WB.nt ?_ | refine WB.nf ?_ | refine WB.dec (fun h => ?_) (fun h => ?_) | refine WB.ndec (fun h => ?_) (fun h => ?_)) | refine WB.mk (fun h => ?_) (fun h => ?_)) <;> conv => whnf) | (refine WB.tt ?_; conv => whnf) | (refine WB.ff ?_; conv => whnf)
        exact Fin.i rfl rfl
def pL {α : Type} (g : α → Int) : List α → Int
  | [] => 0
  | a :: l => g a + pL g l
theorem wM {α : Type} (g : α → Int) : ∀ l m, pL g (l ++ m) = pL g l + pL g m
  | [], m => by simp [pL]
  | a :: l, m => by
    show g a + pL g (l ++ m) = g a + pL g l + pL g m
    rw [wM g l m]; omega
theorem yS {α β : Type} (g : β → Int) (F : α → List β) : ∀ l, pL g (l.flatMap F) = pL (fun a => pL g (F a)) l
  | [] => rfl
  | a :: l => by
    rw [List.flatMap_cons, wM, yS g F l]; rfl
theorem uW {α β : Type} (g : β → Int) (F : α → β) : ∀ l, pL g (l.map F) = pL (fun a => g (F a)) l
  | [] => rfl
  | a :: l => by
    show g (F a) + pL g (l.map F) = _
    rw [uW g F l]; rfl
theorem uH (g : Nat → Int) : ∀ n, pL g (List.range n) = cR g n
  | 0 => rfl
  | n + 1 => by
    rw [List.range_succ, wM, uH g n]
    show cR g n + (g n + 0) = cR g n + g n
    omega
theorem rV {α : Type} (g : α → Int) (d : α) : ∀ l : List α, cR (fun i => g (l.getD i d)) l.length = pL g l
  | [] => rfl
  | a :: l => by
    show cR (fun i => g ((a :: l).getD i d)) (l.length + 1) = g a + pL g l
    rw [lL, ← rV g d l]; rfl
theorem xL (f g : Nat → Int) : ∀ n, cR (fun i => f i + g i) n = cR f n + cR g n
  | 0 => rfl
  | n + 1 => by
    show cR (fun i => f i + g i) n + (f n + g n) = cR f n + f n + (cR g n + g n)
    rw [xL f g n]; omega
theorem tU : ∀ n, cR (fun _ => 0) n = 0
  | 0 => rfl
  | n + 1 => by
    show cR (fun _ => 0) n + 0 = 0
    rw [tU n]; rfl
theorem xU {α : Type} (g : Nat → α → Int) (n : Nat) : ∀ l : List α, cR (fun h => pL (g h) l) n = pL (fun a => cR (fun h => g h a) n) l
  | [] => tU n
  | a :: l => by
    show cR (fun h => g h a + pL (g h) l) n = cR (fun h => g h a) n + pL _ l
    rw [xL, xU g n l]
theorem tW {α : Type} {f g : α → Int} : ∀ {l : List α}, (∀ a ∈ l, f a = g a) → pL f l = pL g l
  | [], _ => rfl
  | a :: l, h => by
    show f a + pL f l = g a + pL g l
    rw [h a (by simp), tW fun b hb => h b (by simp [hb])]
theorem Ef {κ : Hr → Int} (K : Kap κ) (b : Bh) (S : Nat → Nat → Int) (P : List (Int × Int)) (h : Nat) (d : Int) : ∀ j, κ (qN b S P h d j) = cR (fun i => κ (iS b (P.getD i default) (S h (P.getD i default).1.toNat) h d)) j
  | 0 => K.z
  | j + 1 => by
    show κ (mN (qN b S P h d j) _) = cR _ j + _
    rw [K.a, Ef K b S P h d j]
theorem AN (A : List (List Hr)) : ∀ i, AD A i = cR (fun r => pL (fun x => x.good) (A.getD r default)) i
  | 0 => rfl
  | i + 1 => by
    show tY (AD A i) _ _ = cR _ i + _
    rw [Ea, AN A i, rV (fun x : Hr => x.good)]
theorem Cp {b : Bh} (V : VW b) (L : List (List Int)) {t : List Int} (ht : TruP b t) : eL b L t = cR (fun h => kq b (bU L) (fM b.rws.toNat b.pls.toNat) (fun x => x.good) h (t.getD h 0)) (hrs b) := by
  have e1 : ∀ h, kq b (bU L) (fM b.rws.toNat b.pls.toNat) (fun x => x.good) h (t.getD h 0) = pL (fun q : Int × Int => (iS b q (bU L h q.1.toNat) h (t.getD h 0)).good) (fM b.rws.toNat b.pls.toNat) := fun h => by
    rw [← rV _ default]
    exact Ef Kap.good b (bU L) _ h _ _
  rw [dP fun h _ => e1 h, xU]
  unfold eL fM
  rw [AN, oI, yS, uH]
  refine dP fun r hr => ?_
  rw [GW _ hr, uW, uW]
  refine tW fun p _ => ?_
  show (dJ b (bU L) ((r : Int), (p : Int)) t t.length).good = _
  have := Ck Kap.good b (bU L) ((r : Int), (p : Int)) t t.length
  rw [ht.len] at this ⊢
  exact this
theorem vV {b : Bh} (V : VW b) (L : List (List Int)) {t : List Int} (ht : TruP b t) : 0 ≤ eL b L t ∧ eL b L t ≤ 1099511627776 := by
  have hl := ht.len
  have q1 := V.rws
  have q2 := V.pls
  have q3 := V.last
  unfold hrs at hl
  have h := Ai (A := oZ (IC b L t) b.rws.toNat b.pls.toNat) (fun w hw => by
    refine ⟨by rw [(qW hw).1]; omega, fun x hx => ?_⟩
    obtain ⟨r, p, rfl⟩ := (qW hw).2 x hx
    have := (mJ b (bU L) ((r : Int), (p : Int)) t t.length).2.2
    show 0 ≤ (dJ b (bU L) ((r : Int), (p : Int)) t t.length).good ∧ (dJ b (bU L) ((r : Int), (p : Int)) t t.length).good ≤ 1000
    omega) _ (Nat.le_refl _)
  rw [oI] at h
  unfold eL
  rw [oI]
  omega
theorem Hi {b : Bh} (V : VW b) (L : List (List Int)) (hT : bC b ≠ []) : GJ b (bU L) = wS (zM (eL b L) (bC b) (bC b).length) (zI (eL b L) (bC b) (bC b).length) := by
  unfold GJ ME wS
  rw [EC V hT (fun t ht => Cp V L ht) (fun t ht => (vV V L ht).2), EY V hT (fun t ht => Cp V L ht) (fun t ht => by have := (vV V L ht).1; omega)]
theorem Ht : oU true = 1 := rfl
theorem Hz : oU false = 0 := rfl
theorem AP (f : List Int → Bool) (Ts : List (List Int)) : ∀ j, j ≤ Ts.length → (tM f Ts j = j ↔ ∀ i, i < j → f (Ts.getD i default) = true)
  | 0, _ => by simp [tM]
  | j + 1, hj => by
    have ih := AP f Ts j (by omega)
    have hl := Aw f Ts j
    show tM f Ts j + (if f (Ts.getD j default) = true then 1 else 0) = j + 1 ↔ _
    constructor
    · intro h i hi
      by_cases k : f (Ts.getD j default) = true
      · rw [if_pos k] at h
        rcases Nat.lt_or_ge i j with hi | hi
        · exact ih.1 (by omega) i hi
        · rw [show i = j by omega]; exact k
      · rw [if_neg k] at h; omega
    · intro h
      rw [if_pos (h j (by omega)), ih.2 fun i hi => h i (by omega)]
theorem yJ (f : List Int → Bool) (Ts : List (List Int)) : ∀ j, j ≤ Ts.length → (tM f Ts j = 0 ↔ ∀ i, i < j → f (Ts.getD i default) = false)
  | 0, _ => by simp [tM]
  | j + 1, hj => by
    have ih := yJ f Ts j (by omega)
    show tM f Ts j + (if f (Ts.getD j default) = true then 1 else 0) = 0 ↔ _
    constructor
    · intro h i hi
      by_cases k : f (Ts.getD j default) = true
      · rw [if_pos k] at h; omega
      · rw [if_neg k] at h
        rcases Nat.lt_or_ge i j with hi | hi
        · exact ih.1 (by omega) i hi
        · rw [show i = j by omega]; simpa using k
    · intro h
      rw [h j (by omega), if_neg (by decide), ih.2 fun i hi => h i (by omega)]
theorem BN {α : Type} {l : List α} {d : α} {P : α → Prop} : (∀ i, i < l.length → P (l.getD i d)) ↔ ∀ a ∈ l, P a := by
  constructor
  · intro h a ha
    obtain ⟨i, hi, e⟩ := sI (d := d) ha
    rw [← e]; exact h i hi
  · exact fun h i hi => h _ (aM hi)
theorem Be {b : Bh} {t : List Int} (ht : TruP b t) {h : Nat} {d : Int} (hd : d ∈ aJ b h) : TruP b (t.set h d) ∧ (h < hrs b → (t.set h d).getD h 0 = d) := by
  refine ⟨⟨by rw [List.length_set]; exact ht.len, fun i hi => ?_⟩, fun hh => ?_⟩
  · by_cases e : h = i
    · subst e
      have : (t.set h d).getD h 0 = d := by simp [List.getD, ht.len, hi]
      rw [this]; exact hd
    · have : (t.set h d).getD i 0 = t.getD i 0 := by simp [List.getD, e]
      rw [this]; exact ht.mem i hi
  · simp [List.getD, ht.len, hh]
theorem CO {b : Bh} (V : VW b) (L : List (List Int)) (p : Int × Int) {h : Nat} (hh : h < hrs b) (hT : bC b ≠ []) : IP (oQ b (bU L) [p] (fun x => x.calm) h) (oO b (bU L) [p] (fun x => x.calm) h) = Kx (rB b L p h) (bC b) := by
  have hne := nZ ((kT V).1 hT) h hh
  have hk : kV b (bU L) [p] (fun x => x.calm) h ≠ [] := fun k => hne (List.map_eq_nil_iff.1 k)
  have m1 := Ch hk
  have m2 := Cc hk
  have m1 : IsMn (kV b (bU L) [p] (fun x => x.calm) h) (oQ b (bU L) [p] (fun x => x.calm) h) := m1
  have m2 : IsMx (kV b (bU L) [p] (fun x => x.calm) h) (oO b (bU L) [p] (fun x => x.calm) h) := m2
  have ek : ∀ d, kq b (bU L) [p] (fun x => x.calm) h d = oU (tB b p (bU L h p.1.toNat) d) := fun d => HW Kap.calm b (bU L) p h d
  have b0 : ∀ x ∈ kV b (bU L) [p] (fun x => x.calm) h, x = 0 ∨ x = 1 := fun x hx => by
    obtain ⟨d, _, rfl⟩ := List.mem_map.1 hx
    rw [ek]; unfold oU; split <;> simp
  obtain ⟨t0, ht0⟩ : ∃ t, t ∈ bC b := by
    cases hb : bC b with
    | nil => exact absurd hb hT
    | cons t ts => exact ⟨t, by simp⟩
  have tp0 := (cZ V).1 ht0
  have hall : (∀ t ∈ bC b, rB b L p h t = true) ↔ ∀ d ∈ aJ b h, tB b p (bU L h p.1.toNat) d = true := by
    constructor
    · intro k d hd
      have t1 := Be tp0 hd
      have := k _ ((cZ V).2 t1.1)
      unfold rB at this
      rwa [t1.2 hh] at this
    · intro k t ht
      exact k _ (((cZ V).1 ht).mem h hh)
  have hno : (∀ t ∈ bC b, rB b L p h t = false) ↔ ∀ d ∈ aJ b h, tB b p (bU L h p.1.toNat) d = false := by
    constructor
    · intro k d hd
      have t1 := Be tp0 hd
      have := k _ ((cZ V).2 t1.1)
      unfold rB at this
      rwa [t1.2 hh] at this
    · intro k t ht
      exact k _ (((cZ V).1 ht).mem h hh)
  have c1 := (AP (rB b L p h) (bC b) _ (Nat.le_refl _)).trans (BN (P := fun t => rB b L p h t = true))
  have c2 := (yJ (rB b L p h) (bC b) _ (Nat.le_refl _)).trans (BN (P := fun t => rB b L p h t = false))
  have hp := List.length_pos_iff.2 hT
  unfold Kx IP
  have x1 := b0 _ m1.1
  have x2 := b0 _ m2.1
  have x3 := m2.2 _ m1.1
  have g1 : (oQ b (bU L) [p] (fun x => x.calm) h = 1) ↔ tM (rB b L p h) (bC b) (bC b).length = (bC b).length := by
    rw [c1, hall]
    constructor
    · intro e d hd
      have := m1.2 _ (List.mem_map.2 ⟨d, hd, rfl⟩)
      rw [ek, e] at this
      cases k : tB b p (bU L h p.1.toNat) d with
      | true => rfl
      | false => rw [k, Hz] at this; omega
    · intro k
      obtain ⟨d, hd, e⟩ := List.mem_map.1 m1.1
      rw [← e, ek, k d hd, Ht]
  have g2 : (oO b (bU L) [p] (fun x => x.calm) h = 0) ↔ tM (rB b L p h) (bC b) (bC b).length = 0 := by
    rw [c2, hno]
    constructor
    · intro e d hd
      have := m2.2 _ (List.mem_map.2 ⟨d, hd, rfl⟩)
      rw [ek, e] at this
      cases k : tB b p (bU L h p.1.toNat) d with
      | false => rfl
      | true => rw [k, Ht] at this; omega
    · intro k
      obtain ⟨d, hd, e⟩ := List.mem_map.1 m2.1
      rw [← e, ek, k d hd, Hz]
  by_cases k1 : tM (rB b L p h) (bC b) (bC b).length = (bC b).length
  · have := g1.2 k1
    rw [if_pos k1, if_pos (by omega)]
  rw [if_neg k1]
  have n1 : ¬ oQ b (bU L) [p] (fun x => x.calm) h = 1 := fun e => k1 (g1.1 e)
  rw [if_neg (by omega)]
  by_cases k2 : tM (rB b L p h) (bC b) (bC b).length = 0
  · have := g2.2 k2
    rw [if_pos k2, if_pos (by omega)]
  · have n2 : ¬ oO b (bU L) [p] (fun x => x.calm) h = 0 := fun e => k2 (g2.1 e)
    rw [if_neg k2, if_neg (by omega)]
end Go.Ev
end
