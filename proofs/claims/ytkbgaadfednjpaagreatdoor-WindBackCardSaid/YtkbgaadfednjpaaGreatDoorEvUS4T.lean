import Derived.Test.YtkbgaadfednjpaaGreatDoorEvU4h
import Derived.Test.YtkbgaadfednjpaaGreatDoorProg
import Derived.Test.YtkbgaadfednjpaaGreatDoorEvU5i
import Derived.Test.YtkbgaadfednjpaaGreatDoorEvU4b
import Derived.Test.YtkbgaadfednjpaaGreatDoorEvUSq
import Derived.Test.YtkbgaadfednjpaaGreatDoorEvUIt
set_option linter.all false
set_option maxHeartbeats 8000000
noncomputable section
namespace Go.Ev
open Go.Proofs
noncomputable def Fc : T RF := (.n (.n (.n (.n (.n (.n (.n (.n .e (aA Tryz.prog 127) .e) (aA Tryz.prog 63) .e) (aA Tryz.prog 31) (.n (.n .e (aA Tryz.prog 159) .e) (aA Tryz.prog 95) .e)) none (.n (.n (.n .e (aA Tryz.prog 143) .e) (aA Tryz.prog 79) .e) (aA Tryz.prog 47) (.n .e (aA Tryz.prog 111) .e))) none (.n (.n (.n (.n .e (aA Tryz.prog 135) .e) (aA Tryz.prog 71) .e) (aA Tryz.prog 39) (.n .e (aA Tryz.prog 103) .e)) (aA Tryz.prog 23) (.n (.n (.n .e (aA Tryz.prog 151) .e) (aA Tryz.prog 87) .e) (aA Tryz.prog 55) (.n .e (aA Tryz.prog 119) .e)))) none (.n (.n (.n (.n (.n .e (aA Tryz.prog 131) .e) (aA Tryz.prog 67) .e) (aA Tryz.prog 35) (.n .e (aA Tryz.prog 99) .e)) (aA Tryz.prog 19) (.n (.n (.n .e (aA Tryz.prog 147) .e) (aA Tryz.prog 83) .e) (aA Tryz.prog 51) (.n .e (aA Tryz.prog 115) .e))) none (.n (.n (.n (.n .e (aA Tryz.prog 139) .e) (aA Tryz.prog 75) .e) (aA Tryz.prog 43) (.n .e (aA Tryz.prog 107) .e)) (aA Tryz.prog 27) (.n (.n (.n .e (aA Tryz.prog 155) .e) (aA Tryz.prog 91) .e) (aA Tryz.prog 59) (.n .e (aA Tryz.prog 123) .e))))) none (.n (.n (.n (.n (.n (.n .e (aA Tryz.prog 129) .e) (aA Tryz.prog 65) .e) (aA Tryz.prog 33) (.n (.n .e (aA Tryz.prog 161) .e) (aA Tryz.prog 97) .e)) none (.n (.n (.n .e (aA Tryz.prog 145) .e) (aA Tryz.prog 81) .e) (aA Tryz.prog 49) (.n .e (aA Tryz.prog 113) .e))) none (.n (.n (.n (.n .e (aA Tryz.prog 137) .e) (aA Tryz.prog 73) .e) (aA Tryz.prog 41) (.n .e (aA Tryz.prog 105) .e)) (aA Tryz.prog 25) (.n (.n (.n .e (aA Tryz.prog 153) .e) (aA Tryz.prog 89) .e) (aA Tryz.prog 57) (.n .e (aA Tryz.prog 121) .e)))) none (.n (.n (.n (.n (.n .e (aA Tryz.prog 133) .e) (aA Tryz.prog 69) .e) (aA Tryz.prog 37) (.n .e (aA Tryz.prog 101) .e)) (aA Tryz.prog 21) (.n (.n (.n .e (aA Tryz.prog 149) .e) (aA Tryz.prog 85) .e) (aA Tryz.prog 53) (.n .e (aA Tryz.prog 117) .e))) none (.n (.n (.n (.n .e (aA Tryz.prog 141) .e) (aA Tryz.prog 77) .e) (aA Tryz.prog 45) (.n .e (aA Tryz.prog 109) .e)) (aA Tryz.prog 29) (.n (.n (.n .e (aA Tryz.prog 157) .e) (aA Tryz.prog 93) .e) (aA Tryz.prog 61) (.n .e (aA Tryz.prog 125) .e)))))) none (.n (.n (.n (.n (.n (.n (.n .e (aA Tryz.prog 128) .e) (aA Tryz.prog 64) .e) (aA Tryz.prog 32) (.n (.n .e (aA Tryz.prog 160) .e) (aA Tryz.prog 96) .e)) none (.n (.n (.n .e (aA Tryz.prog 144) .e) (aA Tryz.prog 80) .e) (aA Tryz.prog 48) (.n .e (aA Tryz.prog 112) .e))) none (.n (.n (.n (.n .e (aA Tryz.prog 136) .e) (aA Tryz.prog 72) .e) (aA Tryz.prog 40) (.n .e (aA Tryz.prog 104) .e)) (aA Tryz.prog 24) (.n (.n (.n .e (aA Tryz.prog 152) .e) (aA Tryz.prog 88) .e) (aA Tryz.prog 56) (.n .e (aA Tryz.prog 120) .e)))) none (.n (.n (.n (.n (.n .e (aA Tryz.prog 132) .e) (aA Tryz.prog 68) .e) (aA Tryz.prog 36) (.n .e (aA Tryz.prog 100) .e)) (aA Tryz.prog 20) (.n (.n (.n .e (aA Tryz.prog 148) .e) (aA Tryz.prog 84) .e) (aA Tryz.prog 52) (.n .e (aA Tryz.prog 116) .e))) none (.n (.n (.n (.n .e (aA Tryz.prog 140) .e) (aA Tryz.prog 76) .e) (aA Tryz.prog 44) (.n .e (aA Tryz.prog 108) .e)) (aA Tryz.prog 28) (.n (.n (.n .e (aA Tryz.prog 156) .e) (aA Tryz.prog 92) .e) (aA Tryz.prog 60) (.n .e (aA Tryz.prog 124) .e))))) none (.n (.n (.n (.n (.n (.n .e (aA Tryz.prog 130) .e) (aA Tryz.prog 66) .e) (aA Tryz.prog 34) (.n .e (aA Tryz.prog 98) .e)) none (.n (.n (.n .e (aA Tryz.prog 146) .e) (aA Tryz.prog 82) .e) (aA Tryz.prog 50) (.n .e (aA Tryz.prog 114) .e))) none (.n (.n (.n (.n .e (aA Tryz.prog 138) .e) (aA Tryz.prog 74) .e) (aA Tryz.prog 42) (.n .e (aA Tryz.prog 106) .e)) (aA Tryz.prog 26) (.n (.n (.n .e (aA Tryz.prog 154) .e) (aA Tryz.prog 90) .e) (aA Tryz.prog 58) (.n .e (aA Tryz.prog 122) .e)))) none (.n (.n (.n (.n (.n .e (aA Tryz.prog 134) .e) (aA Tryz.prog 70) .e) (aA Tryz.prog 38) (.n .e (aA Tryz.prog 102) .e)) (aA Tryz.prog 22) (.n (.n (.n .e (aA Tryz.prog 150) .e) (aA Tryz.prog 86) .e) (aA Tryz.prog 54) (.n .e (aA Tryz.prog 118) .e))) none (.n (.n (.n (.n .e (aA Tryz.prog 142) .e) (aA Tryz.prog 78) .e) (aA Tryz.prog 46) (.n .e (aA Tryz.prog 110) .e)) (aA Tryz.prog 30) (.n (.n (.n .e (aA Tryz.prog 158) .e) (aA Tryz.prog 94) .e) (aA Tryz.prog 62) (.n .e (aA Tryz.prog 126) .e)))))))
set_option maxRecDepth 100000 in
theorem hN : FPok Tryz.prog Fc := FPok.of (TabOk.n TabOk.no (TabOk.n TabOk.no (TabOk.n TabOk.no (TabOk.n TabOk.no (TabOk.n TabOk.no (TabOk.n TabOk.at (TabOk.n TabOk.at (TabOk.n TabOk.at TabOk.e TabOk.e) TabOk.e) (TabOk.n TabOk.at (TabOk.n TabOk.at TabOk.e TabOk.e) TabOk.e)) (TabOk.n TabOk.at (TabOk.n TabOk.at (TabOk.n TabOk.at TabOk.e TabOk.e) TabOk.e) (TabOk.n TabOk.at TabOk.e TabOk.e))) (TabOk.n TabOk.at (TabOk.n TabOk.at (TabOk.n TabOk.at (TabOk.n TabOk.at TabOk.e TabOk.e) TabOk.e) (TabOk.n TabOk.at TabOk.e TabOk.e)) (TabOk.n TabOk.at (TabOk.n TabOk.at (TabOk.n TabOk.at TabOk.e TabOk.e) TabOk.e) (TabOk.n TabOk.at TabOk.e TabOk.e)))) (TabOk.n TabOk.no (TabOk.n TabOk.at (TabOk.n TabOk.at (TabOk.n TabOk.at (TabOk.n TabOk.at TabOk.e TabOk.e) TabOk.e) (TabOk.n TabOk.at TabOk.e TabOk.e)) (TabOk.n TabOk.at (TabOk.n TabOk.at (TabOk.n TabOk.at TabOk.e TabOk.e) TabOk.e) (TabOk.n TabOk.at TabOk.e TabOk.e))) (TabOk.n TabOk.at (TabOk.n TabOk.at (TabOk.n TabOk.at (TabOk.n TabOk.at TabOk.e TabOk.e) TabOk.e) (TabOk.n TabOk.at TabOk.e TabOk.e)) (TabOk.n TabOk.at (TabOk.n TabOk.at (TabOk.n TabOk.at TabOk.e TabOk.e) TabOk.e) (TabOk.n TabOk.at TabOk.e TabOk.e))))) (TabOk.n TabOk.no (TabOk.n TabOk.no (TabOk.n TabOk.no (TabOk.n TabOk.at (TabOk.n TabOk.at (TabOk.n TabOk.at TabOk.e TabOk.e) TabOk.e) (TabOk.n TabOk.at (TabOk.n TabOk.at TabOk.e TabOk.e) TabOk.e)) (TabOk.n TabOk.at (TabOk.n TabOk.at (TabOk.n TabOk.at TabOk.e TabOk.e) TabOk.e) (TabOk.n TabOk.at TabOk.e TabOk.e))) (TabOk.n TabOk.at (TabOk.n TabOk.at (TabOk.n TabOk.at (TabOk.n TabOk.at TabOk.e TabOk.e) TabOk.e) (TabOk.n TabOk.at TabOk.e TabOk.e)) (TabOk.n TabOk.at (TabOk.n TabOk.at (TabOk.n TabOk.at TabOk.e TabOk.e) TabOk.e) (TabOk.n TabOk.at TabOk.e TabOk.e)))) (TabOk.n TabOk.no (TabOk.n TabOk.at (TabOk.n TabOk.at (TabOk.n TabOk.at (TabOk.n TabOk.at TabOk.e TabOk.e) TabOk.e) (TabOk.n TabOk.at TabOk.e TabOk.e)) (TabOk.n TabOk.at (TabOk.n TabOk.at (TabOk.n TabOk.at TabOk.e TabOk.e) TabOk.e) (TabOk.n TabOk.at TabOk.e TabOk.e))) (TabOk.n TabOk.at (TabOk.n TabOk.at (TabOk.n TabOk.at (TabOk.n TabOk.at TabOk.e TabOk.e) TabOk.e) (TabOk.n TabOk.at TabOk.e TabOk.e)) (TabOk.n TabOk.at (TabOk.n TabOk.at (TabOk.n TabOk.at TabOk.e TabOk.e) TabOk.e) (TabOk.n TabOk.at TabOk.e TabOk.e)))))) (TabOk.n TabOk.no (TabOk.n TabOk.no (TabOk.n TabOk.no (TabOk.n TabOk.no (TabOk.n TabOk.at (TabOk.n TabOk.at (TabOk.n TabOk.at TabOk.e TabOk.e) TabOk.e) (TabOk.n TabOk.at (TabOk.n TabOk.at TabOk.e TabOk.e) TabOk.e)) (TabOk.n TabOk.at (TabOk.n TabOk.at (TabOk.n TabOk.at TabOk.e TabOk.e) TabOk.e) (TabOk.n TabOk.at TabOk.e TabOk.e))) (TabOk.n TabOk.at (TabOk.n TabOk.at (TabOk.n TabOk.at (TabOk.n TabOk.at TabOk.e TabOk.e) TabOk.e) (TabOk.n TabOk.at TabOk.e TabOk.e)) (TabOk.n TabOk.at (TabOk.n TabOk.at (TabOk.n TabOk.at TabOk.e TabOk.e) TabOk.e) (TabOk.n TabOk.at TabOk.e TabOk.e)))) (TabOk.n TabOk.no (TabOk.n TabOk.at (TabOk.n TabOk.at (TabOk.n TabOk.at (TabOk.n TabOk.at TabOk.e TabOk.e) TabOk.e) (TabOk.n TabOk.at TabOk.e TabOk.e)) (TabOk.n TabOk.at (TabOk.n TabOk.at (TabOk.n TabOk.at TabOk.e TabOk.e) TabOk.e) (TabOk.n TabOk.at TabOk.e TabOk.e))) (TabOk.n TabOk.at (TabOk.n TabOk.at (TabOk.n TabOk.at (TabOk.n TabOk.at TabOk.e TabOk.e) TabOk.e) (TabOk.n TabOk.at TabOk.e TabOk.e)) (TabOk.n TabOk.at (TabOk.n TabOk.at (TabOk.n TabOk.at TabOk.e TabOk.e) TabOk.e) (TabOk.n TabOk.at TabOk.e TabOk.e))))) (TabOk.n TabOk.no (TabOk.n TabOk.no (TabOk.n TabOk.no (TabOk.n TabOk.at (TabOk.n TabOk.at (TabOk.n TabOk.at TabOk.e TabOk.e) TabOk.e) (TabOk.n TabOk.at TabOk.e TabOk.e)) (TabOk.n TabOk.at (TabOk.n TabOk.at (TabOk.n TabOk.at TabOk.e TabOk.e) TabOk.e) (TabOk.n TabOk.at TabOk.e TabOk.e))) (TabOk.n TabOk.at (TabOk.n TabOk.at (TabOk.n TabOk.at (TabOk.n TabOk.at TabOk.e TabOk.e) TabOk.e) (TabOk.n TabOk.at TabOk.e TabOk.e)) (TabOk.n TabOk.at (TabOk.n TabOk.at (TabOk.n TabOk.at TabOk.e TabOk.e) TabOk.e) (TabOk.n TabOk.at TabOk.e TabOk.e)))) (TabOk.n TabOk.no (TabOk.n TabOk.at (TabOk.n TabOk.at (TabOk.n TabOk.at (TabOk.n TabOk.at TabOk.e TabOk.e) TabOk.e) (TabOk.n TabOk.at TabOk.e TabOk.e)) (TabOk.n TabOk.at (TabOk.n TabOk.at (TabOk.n TabOk.at TabOk.e TabOk.e) TabOk.e) (TabOk.n TabOk.at TabOk.e TabOk.e))) (TabOk.n TabOk.at (TabOk.n TabOk.at (TabOk.n TabOk.at (TabOk.n TabOk.at TabOk.e TabOk.e) TabOk.e) (TabOk.n TabOk.at TabOk.e TabOk.e)) (TabOk.n TabOk.at (TabOk.n TabOk.at (TabOk.n TabOk.at TabOk.e TabOk.e) TabOk.e) (TabOk.n TabOk.at TabOk.e TabOk.e)))))))
set_option maxRecDepth 100000
set_option maxRecDepth 1000000
set_option maxRecDepth 100000
theorem sD (l : List (List Hr)) : dE (aJ bS l) := eT bX l
theorem wR (l : List Hr) : dE (aJ fZ l) := eT qW l
theorem IT : sF true = 1 := rfl
theorem JI : sF false = 0 := rfl
set_option maxRecDepth 1000000
set_option maxRecDepth 100000
theorem FitP.spot {ps : List (Bool × List CK)} {ds : List D} (h : FitP ((true, [.i .i64, .i .i64]) :: ps) ds) : ∃ (p : Int × Int) (ds' : List D), ds = .ag (cV p) :: ds' ∧ (i64 p.1 ∧ i64 p.2) ∧ FitP ps ds' := by
  unfold FitP at h
  obtain ⟨es, ds', rfl, h1, h2⟩ := h
  simp only [FitL, eI] at h1
  obtain ⟨d, ds, rfl, ⟨n1, rfl, w1⟩, d2, ds2, rfl, ⟨n2, rfl, w2⟩, rfl⟩ := h1
  exact ⟨(n1, n2), ds', rfl, ⟨qG w1, qG w2⟩, h2⟩
section
variable {sl : T D} {ob : T C} {nx : Pos} {lg : Option (T Bool)} {K : X -> Prop} {d : Pos} {a b j : Nat} {x y : RX} {k kk : IntKind}
theorem WSt.shrU (hx : bE sl x = some (.i k (a : Int))) (hy : bE sl y = some (.i kk (j : Int))) (hk : nT k = 64) (hj : j <= 63) (h : ∀ r : Nat, r = a / 2 ^ j -> r <= a -> eF sl ob nx lg d K (.i k (r : Int))) : WSt (.bin d .shr x y) ⟨sl, ob, nx, lg⟩ K := by
 obtain ⟨k2, k3⟩ := aY (h (a / 2 ^ j) rfl (Nat.div_le_self _ _))
 refine ⟨_, ?_, k3⟩
 show iL d .shr x y sl ob nx lg = _
 unfold iL
 rw [hx, hy]
 have hm : sI j (nT k) = j := by
  unfold sI
  rw [hk, Nat.ble_eq_true_of_le (show j <= 64 by omega)]
  rfl
 have hs : Dk ((a : Nat) : Int) j = ((a / 2 ^ j : Nat) : Int) := rfl
 show DB k (Dk ((a : Nat) : Int) (sI j (nT k))) _ = _
 rw [hm, hs, pB]
 exact k2
end
theorem oR {B : Pos → Prop} {ob : T C} {d : D} (h : Pu d := by simp [Cell.d, Pu, aN, dE, aB, aH, aF, aO, eS, lV]; done) : Fz B ob d d := .pu h
theorem Fv (b : Bh) : PureF Tryz.prog p59.ix [.ag (dV b)] (.b (kL b && decide (bG b = 0))) := by
  have cTh := HK b
  refine PureF.run MB (by simp) (by simp [aN, dE, Pu, aO]) ?_; conv => whnf
  cases hTh : kL b with
  | false =>
    rw [hTh] at cTh
    repeat' first | ((first | refine Qz ?_ | refine Qf (cTh) ?_ | with_reducible (first | refine Qm ?_ | refine Qn ?_ | refine Qo ?_ | refine Qp ?_ | refine WB.nt ?_ | refine WB.nf ?_ | refine WB.dec (fun h => ?_) (fun h => ?_) | refine WB.ndec (fun h => ?_) (fun h => ?_)) | refine WB.mk (fun h => ?_) (fun h => ?_)) <;> conv => whnf) | (refine WB.tt ?_; conv => whnf) | (refine WB.ff ?_; conv => whnf)
    exact Fin.b rfl rfl
  | true =>
  rw [hTh] at cTh
  have F := (Cm hTh).f
  have cF := FJ b F.l1 F.l2 F.l3 F.l6
  by_cases hf : bG b = 0
  · rw [decide_eq_true hf]
    repeat' first | ((first | refine Qz ?_ | refine Qf (cTh) ?_ | refine Qf (cF) ?_ | with_reducible (first | refine Qm ?_ | refine Qn ?_ | refine Qo ?_ | refine Qp ?_ | refine WB.nt ?_ | refine WB.nf ?_ | refine WB.dec (fun h => ?_) (fun h => ?_) | refine WB.ndec (fun h => ?_) (fun h => ?_)) | refine WB.mk (fun h => ?_) (fun h => ?_)) <;> conv => whnf) | (refine WB.tt ?_; conv => whnf) | (refine WB.ff ?_; conv => whnf)
    all_goals first | exact Fin.b rfl rfl | exact Fin.b rfl (by rw [hf]; rfl)
  · rw [decide_eq_false hf]
    repeat' first | ((first | refine Qz ?_ | refine Qf (cTh) ?_ | refine Qf (cF) ?_ | with_reducible (first | refine Qm ?_ | refine Qn ?_ | refine Qo ?_ | refine Qp ?_ | refine WB.nt ?_ | refine WB.nf ?_ | refine WB.dec (fun h => ?_) (fun h => ?_) | refine WB.ndec (fun h => ?_) (fun h => ?_)) | refine WB.mk (fun h => ?_) (fun h => ?_)) <;> conv => whnf) | (refine WB.tt ?_; conv => whnf) | (refine WB.ff ?_; conv => whnf)
    all_goals first | exact Fin.b rfl rfl | exact Fin.b rfl (by rw [decide_eq_false hf]; rfl)
theorem WIx.nums {k : IntKind} {l : List Int} {n : Int} {j : Nat} {F : List D → Prop} (hn : n = (j : Int)) (h : j < l.length) (K : F [.i k (l.getD j 0)]) : WIx (kO k l) n F := by
  subst hn
  exact WIx.at (r := [.i k (l.getD j 0)]) (by simp [kO, List.getD, h]) K
theorem Bo (k : IntKind) (l : List Int) : (kO k l).length = l.length := by simp [kO]
theorem bW (k : IntKind) (l : List Int) : dE (kO k l) := pE.2 fun r hr => by
  obtain ⟨n, _, rfl⟩ := List.mem_map.1 hr
  simp [aN, Pu]
def KP (ws : List Int) : Prop := ∀ n ∈ ws, 0 ≤ n ∧ n ≤ 65535
def AT (ws : List Int) (i : Nat) : Nat := if ws.length = 0 then 0 else (ws.getD (i % ws.length) 0).toNat
theorem Ce {ws : List Int} (h : KP ws) (i : Nat) : AT ws i ≤ 65535 := by
  unfold AT
  split
  · omega
  · rename_i k
    have := h _ (aR (d := 0) (Nat.mod_lt i (by omega : 0 < ws.length)))
    omega
theorem DS (ws : List Int) (h : KP ws) (i : Nat) : PureF Tryz.prog p114.ix [.lst 1 (kO .u16 ws), .i .i64 (i : Int)] (.i .i64 (AT ws i : Int)) := by
  have e1 := Bo .u16 ws
  refine PureF.run KB (by simp) (by simp [aN, dE, Pu, bW]) ?_; conv => whnf
  by_cases k : ws.length = 0
  · have e : AT ws i = 0 := if_pos k
    rw [e]
    repeat' first | ((first | refine Qz ?_ | with_reducible (first | refine Qm ?_ | refine Qn ?_ | refine Qo ?_ | refine Qp ?_ | refine WB.nt ?_ | refine WB.nf ?_ | refine WB.dec (fun h => ?_) (fun h => ?_) | refine WB.ndec (fun h => ?_) (fun h => ?_)) | refine WB.mk (fun h => ?_) (fun h => ?_)) <;> conv => whnf) | (refine WB.tt ?_; conv => whnf) | (refine WB.ff ?_; conv => whnf)
    exact Fin.i rfl rfl
  have hm := Nat.mod_lt i (by omega : 0 < ws.length)
  have hb := h _ (aR (d := 0) hm)
  have e : AT ws i = (ws.getD (i % ws.length) 0).toNat := if_neg k
  repeat' first | ((first | refine Qz ?_ | refine WIx.nums (j := i % ws.length) (by rw [e1, yQ]) hm ?_ | with_reducible (first | refine Qm ?_ | refine Qn ?_ | refine Qo ?_ | refine Qp ?_ | refine WB.nt ?_ | refine WB.nf ?_ | refine WB.dec (fun h => ?_) (fun h => ?_) | refine WB.ndec (fun h => ?_) (fun h => ?_)) | refine WB.mk (fun h => ?_) (fun h => ?_)) <;> conv => whnf) | (refine WB.tt ?_; conv => whnf) | (refine WB.ff ?_; conv => whnf)
  exact Fin.i rfl (by rw [e]; omega)
def iV (ws : List Int) (h i : Nat) : Int := Int.tmod ((AT ws h / 2 ^ (2 * i) : Nat) : Int) 4
theorem GX (ws : List Int) (h i : Nat) : 0 ≤ iV ws h i ∧ iV ws h i ≤ 3 := by
  have h0 := yQ (AT ws h / 2 ^ (2 * i)) 4
  unfold iV
  rw [show Int.tmod ((AT ws h / 2 ^ (2 * i) : Nat) : Int) 4 = ((AT ws h / 2 ^ (2 * i) % 4 : Nat) : Int) from h0]
  omega
def Gw (b : Bh) (ws : List Int) : List (List Int) := jA (iV ws) (b.last + 1).toNat b.rws.toNat
set_option maxHeartbeats 8000000 in
theorem HI (b : Bh) (V : VW b) (ws : List Int) (hu : KP ws) : PureF Tryz.prog p61.ix [.ag (dV b), .lst 1 (kO .u16 ws)] (.lst 1 (aJ fI (Gw b ws))) := by
  have q3 := V.last
  unfold Gw
  have q1 := V.rws
  have q2 := V.pls
  refine PureF.run Le (by simp) (by simp [aN, dE, Pu, aO, bW]) ?_; conv => whnf
  repeat' first | ((first | refine Qz ?_ | refine Qy ?_) <;> conv => whnf) | (refine WB.tt ?_; conv => whnf) | (refine WB.ff ?_; conv => whnf)
  refine Rn.loopV [(p6, none), (p7, none), (p8, none), (p9, none), (bB, none), (bK, none), (bN, none), (bI, none), (p14, none), (bP, none), (cJ, none), (dC, none), (cK, none), (cU, none), (p20, none), (p21, none), (p22, none), (p23, none), (p24, none), (p25, none), (p26, none), (fN, none), (p28, none), (p29, none), (fT, none), (hH, none), (iF, none), (iT, none), (kP, none), (iN, none), (oL, none), (rJ, none), (rT, none)] (fun i : Nat => [(p6, some (wH (.i (.o .h)) 1 (jA (iV ws) i b.rws.toNat))), (p7, some (.i .i64 (i : Int)))]) (fun i : Nat => [((.i (.o .h)), yD fI (jA (iV ws) i b.rws.toNat))]) (fun i : Nat => fO (.o .h) (.o (.i .h)) (jA (iV ws) i b.rws.toNat)) (fun i : Nat => i ≤ (b.last + 1).toNat) (fun i : Nat => (b.last + 1).toNat - i) 0 ?_ ?_ ?_
  · conv => whnf
    (refine X.le.mk ?_ ?_ (Nat.le_refl _) rfl rfl) <;> (repeat' first | exact T.le_e _ | refine T.le_some ?_ rfl ?_ | refine T.le_none ?_ ?_ | refine T.le_ee ?_ ?_)
  rotate_left
  intro xl1 hxl1
  rotate_right
  · exact Nat.zero_le _
  intro i hi
  have hi : i ≤ (b.last + 1).toNat := hi
  have osc := vI (iV ws) i b.rws.toNat
  have olen := iJ (iV ws) i b.rws.toNat
  have oend : i = (b.last + 1).toNat → jA (iV ws) i b.rws.toNat = jA (iV ws) (b.last + 1).toNat b.rws.toNat := fun h => by rw [h]
  generalize hO : jA (iV ws) i b.rws.toNat = O at *
  conv => whnf
  repeat' first | ((first | refine Qz ?_ | refine Qy ?_) <;> conv => whnf) | (refine WB.tt ?_; conv => whnf) | (refine WB.ff ?_; conv => whnf)
  refine WB.dec (fun hd => ?_) (fun hd => ?_) <;> conv => whnf
  rotate_left
  · repeat' first | ((first | refine Qz ?_ | refine Qy ?_) <;> conv => whnf) | (refine WB.tt ?_; conv => whnf) | (refine WB.ff ?_; conv => whnf)
    rw [← oend (by omega)]
    exact Fin.t (.inr rfl) rfl (Fz.G O (fun h => h) (fun c h => h) Hl vV)
  have hlt : i < (b.last + 1).toNat := by omega
  repeat' first | ((first | refine Qz ?_ | refine Qy ?_) <;> conv => whnf) | (refine WB.tt ?_; conv => whnf) | (refine WB.ff ?_; conv => whnf)
  cases O with
  | nil =>
    refine Rn.loopV [(p8, none), (p9, none), (bB, none), (dC, none), (cK, none), (cU, none), (p20, none), (p21, none), (p22, none), (p23, none), (p24, none), (p25, none), (p26, none), (fN, none), (p28, none), (p29, none), (fT, none), (hH, none), (iF, none), (iT, none), (kP, none)] (fun j : Nat => [(p8, some (wH (.i .h) 1 ((List.range j).map (iV ws i)))), (p9, some (.i .i64 (j : Int)))]) (fun j : Nat => [((.i .h), yD qO ((List.range j).map (iV ws i)))]) (fun j : Nat => fO (.o .h) (.o (.o .h)) ((List.range j).map (iV ws i))) (fun j : Nat => j ≤ b.rws.toNat) (fun j : Nat => b.rws.toNat - j) 0 ?_ ?_ ?_
    · conv => whnf
      (refine X.le.mk ?_ ?_ (Nat.le_refl _) rfl rfl) <;> (repeat' first | exact T.le_e _ | refine T.le_some ?_ rfl ?_ | refine T.le_none ?_ ?_ | refine T.le_ee ?_ ?_)
    rotate_left
    intro xl2 hxl2
    rotate_right
    · exact Nat.zero_le _
    intro j hj
    have hj : j ≤ b.rws.toNat := hj
    have hsc : (List.range (j + 1)).map (iV ws i) = (List.range j).map (iV ws i) ++ [iV ws i j] := by rw [List.range_succ, List.map_append]; rfl
    have hAl : ((List.range j).map (iV ws i)).length ≤ j := by simp
    have hne : 0 < j → (List.range j).map (iV ws i) ≠ [] := fun h e => by have := congrArg List.length e; simp at this; omega
    generalize hA : (List.range j).map (iV ws i) = A at *
    conv => whnf
    repeat' first | ((first | refine Qz ?_ | refine Qy ?_) <;> conv => whnf) | (refine WB.tt ?_; conv => whnf) | (refine WB.ff ?_; conv => whnf)
    refine WB.dec (fun hd2 => ?_) (fun hd2 => ?_) <;> conv => whnf
    · have hlt2 : j < b.rws.toNat := by omega
      have cG := DS ws hu i
      have hwd := Ce hu i
      cases A with
      | nil =>
        repeat' first | ((first | refine Qz ?_ | refine Qf (cG) ?_ | refine And.intro (InR.u64 (by omega) (by omega)) ?_ | refine Qy ?_) <;> conv => whnf) | (refine WB.tt ?_; conv => whnf) | (refine WB.ff ?_; conv => whnf)
        refine WSt.shrU (k := .i64) (kk := .u64) (a := AT ws i) (j := 2 * j) (by rfl) (by rfl) (by rfl) (by omega) ?_; intro r1 hr1 hr2; subst hr1; conv => whnf
        repeat' first | ((first | refine Qz ?_ | refine Qy ?_) <;> conv => whnf) | (refine WB.tt ?_; conv => whnf) | (refine WB.ff ?_; conv => whnf)
        refine WSt.app_first (r := qO (iV ws i j)) (by rfl) (.inl rfl) (by rfl) (by rfl) (by rfl) (by rfl) ?_; conv => whnf
        repeat' first | ((first | refine Qz ?_ | refine Qy ?_) <;> conv => whnf) | (refine WB.tt ?_; conv => whnf) | (refine WB.ff ?_; conv => whnf)
        refine AgainB.v (j + 1) (by omega) (show j + 1 ≤ b.rws.toNat by omega) (by show Pos.nat _ ≤ Pos.nat _; simp only [hA, hsc, fO, List.cons_append, List.nil_append] <;> decide) (by assumption) ?_
        rw [hsc]
        conv => whnf
        refine Shr.of ?_ ?_ rfl rfl
        · (repeat' first | exact Rel.e | refine Rel.some ?_ ?_ ?_ | refine Rel.none ?_ ?_ | refine Rel.ee ?_ ?_)
          all_goals show Fz _ _ _ _
          all_goals first | exact Fq | exact Fz.pu (bW _ _) | exact oR
        · (repeat' first | exact Rel.e | refine Rel.some ?_ ?_ ?_ | refine Rel.none ?_ ?_ | refine Rel.ee ?_ ?_)
          all_goals refine wI ?_
          all_goals first | exact ShC.na mS _ | exact Sq | (refine ShC.same ?_; (repeat' first | exact ShC.nl | refine ShC.cn ?_ ?_) <;> first | exact Fq | exact Fz.pu (bW _ _) | exact oR)
      | cons a s =>
        have hs5 : s.length + 1 ≤ 1000 := Nat.le_trans hAl (by omega)
        repeat' first | ((first | refine Qz ?_ | refine Qf (cG) ?_ | refine And.intro (InR.u64 (by omega) (by omega)) ?_ | refine Qy ?_) <;> conv => whnf) | (refine WB.tt ?_; conv => whnf) | (refine WB.ff ?_; conv => whnf)
        refine WSt.shrU (k := .i64) (kk := .u64) (a := AT ws i) (j := 2 * j) (by rfl) (by rfl) (by rfl) (by omega) ?_; intro r1 hr1 hr2; subst hr1; conv => whnf
        repeat' first | ((first | refine Qz ?_ | refine Qy ?_) <;> conv => whnf) | (refine WB.tt ?_; conv => whnf) | (refine WB.ff ?_; conv => whnf)
        refine WSt.app_one (id := (.i .h)) (ds := (aJ qO (a :: s)).flatten) (r := qO (iV ws i j)) (by rfl) (by rfl) (by rfl) (by rfl) (by rfl) (by rfl) (by rw [cQ (z := 1) uH]; rfl) (by rfl) (by rfl) (by omega) (by rfl) ?_; conv => whnf
        repeat' first | ((first | refine Qz ?_ | refine Qy ?_) <;> conv => whnf) | (refine WB.tt ?_; conv => whnf) | (refine WB.ff ?_; conv => whnf)
        refine AgainB.v (j + 1) (by omega) (show j + 1 ≤ b.rws.toNat by omega) (by show Pos.nat _ ≤ Pos.nat _; simp only [hA, hsc, fO, List.cons_append, List.nil_append] <;> decide) (by assumption) ?_
        rw [hsc, List.cons_append]
        conv => whnf
        (try rw [dP])
        (try rw [dQ])
        refine Shr.of ?_ ?_ rfl rfl
        · (repeat' first | exact Rel.e | refine Rel.some ?_ ?_ ?_ | refine Rel.none ?_ ?_ | refine Rel.ee ?_ ?_)
          all_goals show Fz _ _ _ _
          all_goals first | exact Fq | exact Fz.pu (bW _ _) | exact oR
        · (repeat' first | exact Rel.e | refine Rel.some ?_ ?_ ?_ | refine Rel.none ?_ ?_ | refine Rel.ee ?_ ?_)
          all_goals refine wI ?_
          all_goals first | exact ShC.ca mS _ _ | exact Sq | (refine ShC.same ?_; (repeat' first | exact ShC.nl | refine ShC.cn ?_ ?_) <;> first | exact Fq | exact Fz.pu (bW _ _) | exact oR)
    obtain rfl : j = b.rws.toNat := by omega
    have hn := hne (by omega)
    cases A with
    | nil => exact absurd rfl hn
    | cons a s =>
    repeat' first | ((first | refine Qz ?_ | refine Qy ?_) <;> conv => whnf) | (refine WB.tt ?_; conv => whnf) | (refine WB.ff ?_; conv => whnf)
    refine WSt.app_first (r := [.sl (.i .h) 0 (s.length + 1) s.length 1]) (by rfl) (.inl rfl) (by rfl) (by rfl) (by rfl) (by rfl) ?_; conv => whnf
    repeat' first | ((first | refine Qz ?_ | refine Qy ?_) <;> conv => whnf) | (refine WB.tt ?_; conv => whnf) | (refine WB.ff ?_; conv => whnf)
    rw [hA] at osc
    refine AgainB.vB (i + 1) (fun id => id.nat < 2 ∨ id.nat = 5) (by omega) (show i + 1 ≤ (b.last + 1).toNat by omega) (by show Pos.nat _ ≤ Pos.nat _; simp only [hO, osc, fO, List.cons_append, List.nil_append] <;> decide) (show ∀ id : Pos, id.nat < (fO (.o .h) (.o (.i .h)) (jA (iV ws) i b.rws.toNat)).nat → _ by rw [hO]; exact fun id h => .inl h) (show ∀ id : Pos, _ → id.nat < (fO (.o .h) (.o (.i .h)) (jA (iV ws) (i + 1) b.rws.toNat)).nat by rw [osc]; exact fun id h => by show id.nat < 6; omega) (by assumption) ?_
    rw [osc]
    conv => whnf
    refine ShrB.of ?_ ?_ rfl rfl
    · (repeat' first | exact Rel.e | refine Rel.some ?_ ?_ ?_ | refine Rel.none ?_ ?_ | refine Rel.ee ?_ ?_)
      all_goals show Fz _ _ _ _
      all_goals first | exact Fq | exact Fz.pu (bW _ _) | exact oR
    · (repeat' first | exact Rel.e | refine Rel.some ?_ ?_ ?_ | refine Rel.none ?_ ?_ | refine Rel.ee ?_ ?_)
      all_goals refine ⟨?_, ?_⟩
      all_goals first | (focus (first | rfl | (simp [Pos.nat]; done))) | (refine ShC.grownF (ds := []) (st := 0) (Nat.le_refl _) trivial ?_; exact Fz.G (a :: s) (by simp [Pos.nat]) (fun c h => h) uH mS) | exact Sq | (refine ShC.same ?_; (repeat' first | exact ShC.nl | refine ShC.cn ?_ ?_) <;> first | exact Fq | exact Fz.pu (bW _ _) | exact oR)
  | cons a0 s0 =>
    have hs5 : s0.length + 1 ≤ 1000 := by have := olen; simp at this; omega
    refine Rn.loopV [(p8, none), (p9, none), (bB, none), (dC, none), (cK, none), (cU, none), (p20, none), (p21, none), (p22, none), (p23, none), (p24, none), (p25, none), (p26, none), (fN, none), (p28, none), (p29, none), (fT, none), (hH, none), (iF, none), (iT, none), (kP, none)] (fun j : Nat => [(p8, some (wH (.i (.i .h)) 1 ((List.range j).map (iV ws i)))), (p9, some (.i .i64 (j : Int)))]) (fun j : Nat => [((.i (.i .h)), yD qO ((List.range j).map (iV ws i)))]) (fun j : Nat => fO (.o (.i .h)) (.o (.o (.o .h))) ((List.range j).map (iV ws i))) (fun j : Nat => j ≤ b.rws.toNat) (fun j : Nat => b.rws.toNat - j) 0 ?_ ?_ ?_
    · conv => whnf
      (refine X.le.mk ?_ ?_ (Nat.le_refl _) rfl rfl) <;> (repeat' first | exact T.le_e _ | refine T.le_some ?_ rfl ?_ | refine T.le_none ?_ ?_ | refine T.le_ee ?_ ?_)
    rotate_left
    intro xl3 hxl3
    rotate_right
    · exact Nat.zero_le _
    intro j hj
    have hj : j ≤ b.rws.toNat := hj
    have hsc : (List.range (j + 1)).map (iV ws i) = (List.range j).map (iV ws i) ++ [iV ws i j] := by rw [List.range_succ, List.map_append]; rfl
    have hAl : ((List.range j).map (iV ws i)).length ≤ j := by simp
    have hne : 0 < j → (List.range j).map (iV ws i) ≠ [] := fun h e => by have := congrArg List.length e; simp at this; omega
    generalize hA : (List.range j).map (iV ws i) = A at *
    conv => whnf
    repeat' first | ((first | refine Qz ?_ | refine Qy ?_) <;> conv => whnf) | (refine WB.tt ?_; conv => whnf) | (refine WB.ff ?_; conv => whnf)
    refine WB.dec (fun hd2 => ?_) (fun hd2 => ?_) <;> conv => whnf
    · have hlt2 : j < b.rws.toNat := by omega
      have cG := DS ws hu i
      have hwd := Ce hu i
      cases A with
      | nil =>
        repeat' first | ((first | refine Qz ?_ | refine Qf (cG) ?_ | refine And.intro (InR.u64 (by omega) (by omega)) ?_ | refine Qy ?_) <;> conv => whnf) | (refine WB.tt ?_; conv => whnf) | (refine WB.ff ?_; conv => whnf)
        refine WSt.shrU (k := .i64) (kk := .u64) (a := AT ws i) (j := 2 * j) (by rfl) (by rfl) (by rfl) (by omega) ?_; intro r1 hr1 hr2; subst hr1; conv => whnf
        repeat' first | ((first | refine Qz ?_ | refine Qy ?_) <;> conv => whnf) | (refine WB.tt ?_; conv => whnf) | (refine WB.ff ?_; conv => whnf)
        refine WSt.app_first (r := qO (iV ws i j)) (by rfl) (.inl rfl) (by rfl) (by rfl) (by rfl) (by rfl) ?_; conv => whnf
        repeat' first | ((first | refine Qz ?_ | refine Qy ?_) <;> conv => whnf) | (refine WB.tt ?_; conv => whnf) | (refine WB.ff ?_; conv => whnf)
        refine AgainB.v (j + 1) (by omega) (show j + 1 ≤ b.rws.toNat by omega) (by show Pos.nat _ ≤ Pos.nat _; simp only [hA, hsc, fO, List.cons_append, List.nil_append] <;> decide) (by assumption) ?_
        rw [hsc]
        conv => whnf
        refine Shr.of ?_ ?_ rfl rfl
        · (repeat' first | exact Rel.e | refine Rel.some ?_ ?_ ?_ | refine Rel.none ?_ ?_ | refine Rel.ee ?_ ?_)
          all_goals show Fz _ _ _ _
          all_goals first | exact Fq | exact Fz.pu (bW _ _) | exact oR
        · (repeat' first | exact Rel.e | refine Rel.some ?_ ?_ ?_ | refine Rel.none ?_ ?_ | refine Rel.ee ?_ ?_)
          all_goals refine wI ?_
          all_goals first | exact ShC.G vV a0 s0 | exact ShC.na mS _ | exact Sq | (refine ShC.same ?_; (repeat' first | exact ShC.nl | refine ShC.cn ?_ ?_) <;> first | exact Fq | exact Fz.pu (bW _ _) | exact oR)
      | cons a s =>
        have hs5 : s.length + 1 ≤ 1000 := Nat.le_trans hAl (by omega)
        repeat' first | ((first | refine Qz ?_ | refine Qf (cG) ?_ | refine And.intro (InR.u64 (by omega) (by omega)) ?_ | refine Qy ?_) <;> conv => whnf) | (refine WB.tt ?_; conv => whnf) | (refine WB.ff ?_; conv => whnf)
        refine WSt.shrU (k := .i64) (kk := .u64) (a := AT ws i) (j := 2 * j) (by rfl) (by rfl) (by rfl) (by omega) ?_; intro r1 hr1 hr2; subst hr1; conv => whnf
        repeat' first | ((first | refine Qz ?_ | refine Qy ?_) <;> conv => whnf) | (refine WB.tt ?_; conv => whnf) | (refine WB.ff ?_; conv => whnf)
        refine WSt.app_one (id := (.i (.i .h))) (ds := (aJ qO (a :: s)).flatten) (r := qO (iV ws i j)) (by rfl) (by rfl) (by rfl) (by rfl) (by rfl) (by rfl) (by rw [cQ (z := 1) uH]; rfl) (by rfl) (by rfl) (by omega) (by rfl) ?_; conv => whnf
        repeat' first | ((first | refine Qz ?_ | refine Qy ?_) <;> conv => whnf) | (refine WB.tt ?_; conv => whnf) | (refine WB.ff ?_; conv => whnf)
        refine AgainB.v (j + 1) (by omega) (show j + 1 ≤ b.rws.toNat by omega) (by show Pos.nat _ ≤ Pos.nat _; simp only [hA, hsc, fO, List.cons_append, List.nil_append] <;> decide) (by assumption) ?_
        rw [hsc, List.cons_append]
        conv => whnf
        (try rw [dP])
        (try rw [dQ])
        refine Shr.of ?_ ?_ rfl rfl
        · (repeat' first | exact Rel.e | refine Rel.some ?_ ?_ ?_ | refine Rel.none ?_ ?_ | refine Rel.ee ?_ ?_)
          all_goals show Fz _ _ _ _
          all_goals first | exact Fq | exact Fz.pu (bW _ _) | exact oR
        · (repeat' first | exact Rel.e | refine Rel.some ?_ ?_ ?_ | refine Rel.none ?_ ?_ | refine Rel.ee ?_ ?_)
          all_goals refine wI ?_
          all_goals first | exact ShC.G vV a0 s0 | exact ShC.ca mS _ _ | exact Sq | (refine ShC.same ?_; (repeat' first | exact ShC.nl | refine ShC.cn ?_ ?_) <;> first | exact Fq | exact Fz.pu (bW _ _) | exact oR)
    obtain rfl : j = b.rws.toNat := by omega
    have hn := hne (by omega)
    cases A with
    | nil => exact absurd rfl hn
    | cons a s =>
    repeat' first | ((first | refine Qz ?_ | refine Qy ?_) <;> conv => whnf) | (refine WB.tt ?_; conv => whnf) | (refine WB.ff ?_; conv => whnf)
    refine WSt.app_one (id := (.i (.o .h))) (ds := (aJ fI (a0 :: s0)).flatten) (r := [.sl (.i (.i .h)) 0 (s.length + 1) s.length 1]) (by rfl) (by rfl) (by rfl) (by rfl) (by rfl) (by rfl) (by rw [cQ (z := 1) Hl]; rfl) (by rfl) (by rfl) (by omega) (by rfl) ?_; conv => whnf
    repeat' first | ((first | refine Qz ?_ | refine Qy ?_) <;> conv => whnf) | (refine WB.tt ?_; conv => whnf) | (refine WB.ff ?_; conv => whnf)
    rw [hA] at osc
    refine AgainB.v (i + 1) (by omega) (show i + 1 ≤ (b.last + 1).toNat by omega) (by show Pos.nat _ ≤ Pos.nat _; simp only [hO, osc, fO, List.cons_append, List.nil_append] <;> decide) (by assumption) ?_
    rw [osc, List.cons_append]
    conv => whnf
    (try rw [dP])
    (try rw [dQ])
    refine Shr.of ?_ ?_ rfl rfl
    · (repeat' first | exact Rel.e | refine Rel.some ?_ ?_ ?_ | refine Rel.none ?_ ?_ | refine Rel.ee ?_ ?_)
      all_goals show Fz _ _ _ _
      all_goals first | exact Fq | exact Fz.pu (bW _ _) | exact oR
    · (repeat' first | exact Rel.e | refine Rel.some ?_ ?_ ?_ | refine Rel.none ?_ ?_ | refine Rel.ee ?_ ?_)
      all_goals refine wI ?_
      all_goals first | exact ShC.grownF (by omega) (fA vV (a0 :: s0)) (Fz.G (a :: s) (fun h => absurd (show 7 < 6 from h) (by decide)) (fun c h => h) uH mS) | exact Sq | (refine ShC.same ?_; (repeat' first | exact ShC.nl | refine ShC.cn ?_ ?_) <;> first | exact Fq | exact Fz.pu (bW _ _) | exact oR)
theorem GV {b : Bh} (V : VW b) (ws : List Int) : uY b (Gw b ws) = true := by
  have q1 := V.rws
  have q3 := V.last
  refine pI.2 ⟨by unfold Gw; rw [iJ]; omega, fun w hw => ?_⟩
  have h1 := (oZ hw).1
  refine ⟨by omega, List.all_eq_true.2 fun x hx => ?_⟩
  obtain ⟨r, p, rfl⟩ := (oZ hw).2 x hx
  have := GX ws r p
  exact decide_eq_true (by omega)
theorem Fl {b : Bh} (V : VW b) (ws : List Int) : (Gw b ws).length ≤ 1000 ∧ ∀ w ∈ Gw b ws, w.length ≤ 1000 := by
  have q1 := V.rws
  have q3 := V.last
  refine ⟨by unfold Gw; rw [iJ]; omega, fun w hw => ?_⟩
  rw [(oZ hw).1]; omega
set_option maxRecDepth 1000000
def DL : Pos := .o GL
def FZ : Pos := .i GL
def kX : Pos := .o Hw
def CY : Pos := .i Hw
def DC : Pos := .o HU
def CJ : Pos := .i HU
def CZ : Pos := .o EW
def Cb : Pos := .i EW
def Ef : Pos := .o GD
def EM : Pos := .i GD
def DN : Pos := .o GM
def Cd : Pos := .i GM
def CN : Pos := .o GY
def CS : Pos := .i GY
def FG : Pos := .o Hs
def Ik : Pos := .i Hs
def Mu : RC := (.seq (.reg [(.u (.box p4 (.t p1))), (.u (.mv p7 (.k (.b false))))]) (.seq (.seq (.reg [(fS p24 p4 9), (.u (.cf (some p25) p59 [(.t p24)])), (.u (.un p26 .not (.t p25)))]) (.cond (.t p26) (.seq (.reg [(.u (.cf (some fN) p22 [])), (Mv p7 fN)]) .ret) .skip)) (.seq (.drw [(fS p28 p4 9), (fS p29 p4 9), (.u (.new p8 [(.i .i64 0), (.i .i64 0), (.i .i64 0), (.i .i64 0), .ns, .ns, .ns, .ns, .ns])), (.u (.new p9 [(.i .i64 0), (.i .i64 0), (.i .i64 0), (.i .i64 0), .ns, .ns, .ns, .ns, .ns])), (.u (.st (.t p8) (.t p28) 9)), (.u (.st (.t p9) (.t p29) 9))] [0, 0, 0, 0, 13, 31]) (.seq (.reg [(Fd fT p8 7), (.u (.st (.t fT) (.k .ns) 1)), (Fd hH p9 3), (.u (.st (.t hH) (.k (.i .i64 0)) 1))]) (.seq (.drw [(fS iF p4 9), (Mv iT p2), (.u (.cvi kP .i64 (.t iT))), (fS iN p4 9), (.u (.cf (some oL) p49 [(.t iN)])), (eE rJ .rem kP oL), (.u (.cf (some rT) p68 [(.t iF), (.t rJ)])), (Mv bB rT)] [0, 0, 2, 0, 8, 30, 63, 127]) (.seq (.reg [(fS tS p4 9), (Mv BC p3), (.u (.cf (some wF) p61 [(.t tS), (.t BC)])), (Mv bK wF)]) (.seq (.reg [(fS An p4 9), (.u (.cf (some p44) p24 [(.t An)])), (Mv p45 bK), (.u (.cf (some tU) p25 [(.t p45)])), (Mv BR bB), (.u (.cf (some BW) p26 [(.t BR)])), (.u (.cf (some p49) p23 [(.t p44), (.t tU), (.t BW)])), (Mv p42 p49), (.u (.ext BZ (.t p42) 0)), (.u (.ext EZ (.t p42) 1)), (Mv bN BZ), (Mv bI EZ)]) (.seq (.reg [(fS BK p8 9), (.u (.cf (some BS) p24 [(.t BK)])), (Mv BJ bK), (.u (.cf (some BP) p25 [(.t BJ)])), (Mv BY bB), (.u (.cf (some BT) p26 [(.t BY)])), (.u (.cf (some p59) p23 [(.t BS), (.t BP), (.t BT)])), (Mv nW p59), (.u (.ext tV (.t nW) 0)), (.u (.ext p61 (.t nW) 1)), (Mv p14 tV), (Mv bP p61)]) (.seq (.reg [(fS xU p9 9), (.u (.cf (some BN) p24 [(.t xU)])), (Mv BU bK), (.u (.cf (some BV) p25 [(.t BU)])), (Mv BL bB), (.u (.cf (some p68) p26 [(.t BL)])), (.u (.cf (some rB) p23 [(.t BN), (.t BV), (.t p68)])), (Mv p62 rB), (.u (.ext EY (.t p62) 0)), (.u (.ext EU (.t p62) 1)), (Mv cJ EY), (Mv dC EU)]) (.seq (.seq (.reg [(Mv ET bI), (dW EX .neq ET 0), (Mv BX EX), (.g BX false (some DU) (.mv DU (.t bP))), (.g BX false (some Fa) (.bin Fa .neq (.t DU) (.k (.i .i64 0)))), (.u (.pick yS (.t BX) (.k (.b true)) (.t Fa))), (Mv p78 yS), (.g p78 false (some CM) (.mv CM (.t dC))), (.g p78 false (some Eb) (.bin Eb .neq (.t CM) (.k (.i .i64 0)))), (.u (.pick Fb (.t p78) (.k (.b true)) (.t Eb))), (Mv p82 Fb), (.g p82 false (some p83) (.ldn p83 (.t p4) 9)), (.g p82 false (some p84) (.mv p84 (.t bN))), (.g p82 false (some p85) (.cf (some p85) p62 [(.t p83), (.t p84)])), (.g p82 false (some p86) (.un p86 .not (.t p85))), (.u (.pick p87 (.t p82) (.k (.b true)) (.t p86))), (Mv p88 p87), (.g p88 false (some p89) (.ldn p89 (.t p4) 9)), (.g p88 false (some GP) (.mv GP (.t p14))), (.g p88 false (some GL) (.cf (some GL) p62 [(.t p89), (.t GP)])), (.g p88 false (some Hw) (.un Hw .not (.t GL))), (.u (.pick HU (.t p88) (.k (.b true)) (.t Hw))), (Mv EW HU), (.g EW false (some GD) (.ldn GD (.t p4) 9)), (.g EW false (some GM) (.mv GM (.t cJ))), (.g EW false (some GY) (.cf (some GY) p62 [(.t GD), (.t GM)])), (.g EW false (some Hs) (.un Hs .not (.t GY))), (.u (.pick p99 (.t EW) (.k (.b true)) (.t Hs)))]) (.cond (.t p99) (.seq (.reg [(.u (.mv p7 (.k (.b false))))]) .ret) .skip)) (.seq (.seq (.reg [(.u (.mv cK (.k (.i .i64 0))))]) (.blk 0 (.loop (.seq (.seq (.reg [(Mv p100 cK), (Fd EK p4 1), (L1 Cc EK), (eE p103 .lss p100 Cc)]) (.cond (.t p103) .skip (.exit 0))) (.seq (.blk 1 (.seq (.reg [(.u (.bld AV [(.i .i64 0), (.i .i64 0), (.i .i64 0)] [])), (.u (.new cU [(.i .i64 0), (.i .i64 0), (.i .i64 0)])), (.u (.st (.t cU) (.t AV) 3))]) (.seq (.seq (.reg [(.u (.mv p20 (.k (.i .i64 0))))]) (.blk 2 (.loop (.seq (.seq (.reg [(Mv p107 p20), (Fd yG p4 0), (L1 wT yG), (eE wM .leq p107 wT)]) (.cond (.t wM) .skip (.exit 2))) (.seq (.blk 3 (.seq (.drw [(Mv Bt bK), (Mv p114 p20), (.u (.ixs AS 1 (.t Bt) (.t p114))), (L1 p116 AS), (Mv p117 cK), (.u (.ixs p118 1 (.t p116) (.t p117))), (L1 p119 p118), (Fd p120 p4 5), (L1 p121 p120), (Mv p122 p20), (.u (.ixs p123 1 (.t p121) (.t p122))), (L1 p124 p123), (eE p125 .eql p119 p124), (Mv p126 bK), (Mv p127 p20), (.u (.ixs p128 1 (.t p126) (.t p127))), (L1 p129 p128), (Mv p130 cK), (.u (.ixs Ax 1 (.t p129) (.t p130))), (L1 Bf Ax), (dW p133 .add Bf 2), (dW p134 .rem p133 4), (Mv Bd bB), (Mv AO p20), (.u (.ixs At 1 (.t Bd) (.t AO))), (L1 Bb At), (eE Bj .eql p134 Bb), (Mv p21 p125), (Mv p22 Bj)] [0, 0, 3, 7, 0, 31, 63, 0, 128, 0, 896, 1920, 4095, 0, 0, 24576, 57344, 0, 253952, 516096, 1040384, 2088960, 0, 0, 12582912, 29360128, 67100672, 8191, 268435455]) (.seq (.seq (.reg [(Mv AF p21)]) (.cond (.t AF) (.reg [(Fd Be cU 0), (L1 Bx Be), (dW AI .add Bx 1), (Fd Bl cU 0), (.u (.st (.t Bl) (.t AI) 1))]) .skip)) (.seq (.seq (.reg [(Mv Br p22)]) (.cond (.t Br) (.reg [(Fd p146 cU 1), (L1 p147 p146), (dW p148 .add p147 1), (Fd p149 cU 1), (.u (.st (.t p149) (.t p148) 1))]) .skip)) (.seq (.reg [(Mv p150 p21), (Mv xT p150), (.g xT true (some p152) (.mv p152 (.t p22))), (.u (.pick AM (.t xT) (.t p152) (.k (.b false))))]) (.cond (.t AM) (.reg [(Fd AE cU 2), (L1 Bu AE), (dW As .add Bu 1), (Fd AR cU 2), (.u (.st (.t AR) (.t As) 1))]) .skip)))))) (.reg [(Mv Av p20), (dW Bq .add Av 1), (Mv p20 Bq)])))))) (.seq (.reg [(.u (.mv p23 (.k (.i .i64 0))))]) (.blk 4 (.loop (.seq (.seq (.reg [(Mv Bz p23), (Fd BG p4 2), (L1 p160 BG), (eE Ba .lss Bz p160)]) (.cond (.t Ba) .skip (.exit 4))) (.seq (.blk 5 (.seq (.drw [(Mv AQ p14), (Mv Bk cK), (.u (.ixs BH 1 (.t AQ) (.t Bk))), (L1 Bw BH), (Mv By p23), (.u (.ixs AZ 3 (.t Bw) (.t By))), (fS Bv AZ 3), (fS AH cU 3), (.u (.eqr mM true [(.i .i64), (.i .i64), (.i .i64)] (.t Bv) (.t AH))), (Mv kJ mM), (.g kJ false (some uT) (.mv uT (.t cJ))), (.g kJ false (some vW) (.mv vW (.t cK))), (.g kJ false (some vD) (.ixs vD 1 (.t uT) (.t vW))), (.g kJ false (some uD) (.ld1 uD (.t vD))), (.g kJ false (some vA) (.mv vA (.t p23))), (.g kJ false (some vZ) (.ixs vZ 3 (.t uD) (.t vA))), (.g kJ false (some uV) (.ldn uV (.t vZ) 3)), (.g kJ false (some wS) (.ldn wS (.t cU) 3)), (.g kJ false (some DL) (.eqr DL true [(.i .i64), (.i .i64), (.i .i64)] (.t uV) (.t wS))), (.u (.pick FZ (.t kJ) (.k (.b true)) (.t DL))), (Mv kX FZ), (.g kX false (some CY) (.mv CY (.t bN))), (.g kX false (some DC) (.mv DC (.t cK))), (.g kX false (some CJ) (.ixs CJ 1 (.t CY) (.t DC))), (.g kX false (some CZ) (.ld1 CZ (.t CJ))), (.g kX false (some Cb) (.mv Cb (.t p23))), (.g kX false (some Ef) (.ixs Ef 3 (.t CZ) (.t Cb))), (.g kX false (some EM) (.fad EM (.t Ef) 1)), (.g kX false (some DN) (.ld1 DN (.t EM))), (.g kX false (some Cd) (.fad Cd (.t cU) 1)), (.g kX false (some CN) (.ld1 CN (.t Cd))), (.g kX false (some CS) (.bin CS .lss (.t DN) (.t CN))), (.u (.pick FG (.t kX) (.k (.b true)) (.t CS)))] [0, 0, 3, 7, 0, 31, 63, 0, 255, 511, 1023, 1023, 4095, 8191, 1023, 32767, 65535, 1023, 262143, 524287, 1048575, 2097151, 2097151, 8388607, 16777215, 2097151, 67108863, 134217727, 268435455, 2097151, 538968063, 2147483647, 4294967295]) (.cond (.t FG) (.seq (.reg [(.u (.mv p7 (.k (.b false))))]) .ret) .skip))) (.reg [(Mv p162 p23), (dW Bn .add p162 1), (Mv p23 Bn)]))))))))) (.reg [(Mv Bg cK), (dW p105 .add Bg 1), (Mv cK p105)])))))) (.seq (.reg [(.u (.cf (some Ik) p22 [])), (Mv p7 Ik)]) .ret))))))))))))
def Lu : List RR := [(.t p7)]
theorem Md : FnOk Tryz.prog p14.ix 197 Mu Lu := ⟨Tryz.f13, aM Tryz.f13, Tryz.func13, by kernel_rfl, by kernel_rfl, by kernel_rfl, by kernel_rfl, by kernel_rfl⟩
end Go.Ev
end
