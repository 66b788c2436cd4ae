import Derived.Test.YtkbgaadfednjpaaGreatDoorEvU4h
import Derived.Test.YtkbgaadfednjpaaGreatDoorProg
import Derived.Test.YtkbgaadfednjpaaGreatDoorEvU4s
import Derived.Test.YtkbgaadfednjpaaGreatDoorEvU4b
import Derived.Test.YtkbgaadfednjpaaGreatDoorEvUSq
import Derived.Test.YtkbgaadfednjpaaGreatDoorEvUIt
set_option linter.all false
set_option maxHeartbeats 8000000
noncomputable section
namespace Go.Ev
open Go.Proofs
noncomputable def Fb : T RF := (.n (.n (.n (.n (.n (.n (.n (.n .e (aA Tryz.prog 127) .e) (aA Tryz.prog 63) .e) (aA Tryz.prog 31) (.n (.n .e (aA Tryz.prog 159) .e) (aA Tryz.prog 95) .e)) none (.n (.n (.n .e (aA Tryz.prog 143) .e) (aA Tryz.prog 79) .e) (aA Tryz.prog 47) (.n .e (aA Tryz.prog 111) .e))) none (.n (.n (.n (.n .e (aA Tryz.prog 135) .e) (aA Tryz.prog 71) .e) (aA Tryz.prog 39) (.n .e (aA Tryz.prog 103) .e)) (aA Tryz.prog 23) (.n (.n (.n .e (aA Tryz.prog 151) .e) (aA Tryz.prog 87) .e) (aA Tryz.prog 55) (.n .e (aA Tryz.prog 119) .e)))) none (.n (.n (.n (.n (.n .e (aA Tryz.prog 131) .e) (aA Tryz.prog 67) .e) (aA Tryz.prog 35) (.n .e (aA Tryz.prog 99) .e)) (aA Tryz.prog 19) (.n (.n (.n .e (aA Tryz.prog 147) .e) (aA Tryz.prog 83) .e) (aA Tryz.prog 51) (.n .e (aA Tryz.prog 115) .e))) none (.n (.n (.n (.n .e (aA Tryz.prog 139) .e) (aA Tryz.prog 75) .e) (aA Tryz.prog 43) (.n .e (aA Tryz.prog 107) .e)) (aA Tryz.prog 27) (.n (.n (.n .e (aA Tryz.prog 155) .e) (aA Tryz.prog 91) .e) (aA Tryz.prog 59) (.n .e (aA Tryz.prog 123) .e))))) none (.n (.n (.n (.n (.n (.n .e (aA Tryz.prog 129) .e) (aA Tryz.prog 65) .e) (aA Tryz.prog 33) (.n (.n .e (aA Tryz.prog 161) .e) (aA Tryz.prog 97) .e)) none (.n (.n (.n .e (aA Tryz.prog 145) .e) (aA Tryz.prog 81) .e) (aA Tryz.prog 49) (.n .e (aA Tryz.prog 113) .e))) none (.n (.n (.n (.n .e (aA Tryz.prog 137) .e) (aA Tryz.prog 73) .e) (aA Tryz.prog 41) (.n .e (aA Tryz.prog 105) .e)) (aA Tryz.prog 25) (.n (.n (.n .e (aA Tryz.prog 153) .e) (aA Tryz.prog 89) .e) (aA Tryz.prog 57) (.n .e (aA Tryz.prog 121) .e)))) none (.n (.n (.n (.n (.n .e (aA Tryz.prog 133) .e) (aA Tryz.prog 69) .e) (aA Tryz.prog 37) (.n .e (aA Tryz.prog 101) .e)) (aA Tryz.prog 21) (.n (.n (.n .e (aA Tryz.prog 149) .e) (aA Tryz.prog 85) .e) (aA Tryz.prog 53) (.n .e (aA Tryz.prog 117) .e))) none (.n (.n (.n (.n .e (aA Tryz.prog 141) .e) (aA Tryz.prog 77) .e) (aA Tryz.prog 45) (.n .e (aA Tryz.prog 109) .e)) (aA Tryz.prog 29) (.n (.n (.n .e (aA Tryz.prog 157) .e) (aA Tryz.prog 93) .e) (aA Tryz.prog 61) (.n .e (aA Tryz.prog 125) .e)))))) none (.n (.n (.n (.n (.n (.n (.n .e (aA Tryz.prog 128) .e) (aA Tryz.prog 64) .e) (aA Tryz.prog 32) (.n (.n .e (aA Tryz.prog 160) .e) (aA Tryz.prog 96) .e)) none (.n (.n (.n .e (aA Tryz.prog 144) .e) (aA Tryz.prog 80) .e) (aA Tryz.prog 48) (.n .e (aA Tryz.prog 112) .e))) none (.n (.n (.n (.n .e (aA Tryz.prog 136) .e) (aA Tryz.prog 72) .e) (aA Tryz.prog 40) (.n .e (aA Tryz.prog 104) .e)) (aA Tryz.prog 24) (.n (.n (.n .e (aA Tryz.prog 152) .e) (aA Tryz.prog 88) .e) (aA Tryz.prog 56) (.n .e (aA Tryz.prog 120) .e)))) none (.n (.n (.n (.n (.n .e (aA Tryz.prog 132) .e) (aA Tryz.prog 68) .e) (aA Tryz.prog 36) (.n .e (aA Tryz.prog 100) .e)) (aA Tryz.prog 20) (.n (.n (.n .e (aA Tryz.prog 148) .e) (aA Tryz.prog 84) .e) (aA Tryz.prog 52) (.n .e (aA Tryz.prog 116) .e))) none (.n (.n (.n (.n .e (aA Tryz.prog 140) .e) (aA Tryz.prog 76) .e) (aA Tryz.prog 44) (.n .e (aA Tryz.prog 108) .e)) (aA Tryz.prog 28) (.n (.n (.n .e (aA Tryz.prog 156) .e) (aA Tryz.prog 92) .e) (aA Tryz.prog 60) (.n .e (aA Tryz.prog 124) .e))))) none (.n (.n (.n (.n (.n (.n .e (aA Tryz.prog 130) .e) (aA Tryz.prog 66) .e) (aA Tryz.prog 34) (.n .e (aA Tryz.prog 98) .e)) none (.n (.n (.n .e (aA Tryz.prog 146) .e) (aA Tryz.prog 82) .e) (aA Tryz.prog 50) (.n .e (aA Tryz.prog 114) .e))) none (.n (.n (.n (.n .e (aA Tryz.prog 138) .e) (aA Tryz.prog 74) .e) (aA Tryz.prog 42) (.n .e (aA Tryz.prog 106) .e)) (aA Tryz.prog 26) (.n (.n (.n .e (aA Tryz.prog 154) .e) (aA Tryz.prog 90) .e) (aA Tryz.prog 58) (.n .e (aA Tryz.prog 122) .e)))) none (.n (.n (.n (.n (.n .e (aA Tryz.prog 134) .e) (aA Tryz.prog 70) .e) (aA Tryz.prog 38) (.n .e (aA Tryz.prog 102) .e)) (aA Tryz.prog 22) (.n (.n (.n .e (aA Tryz.prog 150) .e) (aA Tryz.prog 86) .e) (aA Tryz.prog 54) (.n .e (aA Tryz.prog 118) .e))) none (.n (.n (.n (.n .e (aA Tryz.prog 142) .e) (aA Tryz.prog 78) .e) (aA Tryz.prog 46) (.n .e (aA Tryz.prog 110) .e)) (aA Tryz.prog 30) (.n (.n (.n .e (aA Tryz.prog 158) .e) (aA Tryz.prog 94) .e) (aA Tryz.prog 62) (.n .e (aA Tryz.prog 126) .e)))))))
set_option maxRecDepth 100000 in
theorem iD : FPok Tryz.prog Fb := FPok.of (TabOk.n TabOk.no (TabOk.n TabOk.no (TabOk.n TabOk.no (TabOk.n TabOk.no (TabOk.n TabOk.no (TabOk.n TabOk.at (TabOk.n TabOk.at (TabOk.n TabOk.at TabOk.e TabOk.e) TabOk.e) (TabOk.n TabOk.at (TabOk.n TabOk.at TabOk.e TabOk.e) TabOk.e)) (TabOk.n TabOk.at (TabOk.n TabOk.at (TabOk.n TabOk.at TabOk.e TabOk.e) TabOk.e) (TabOk.n TabOk.at TabOk.e TabOk.e))) (TabOk.n TabOk.at (TabOk.n TabOk.at (TabOk.n TabOk.at (TabOk.n TabOk.at TabOk.e TabOk.e) TabOk.e) (TabOk.n TabOk.at TabOk.e TabOk.e)) (TabOk.n TabOk.at (TabOk.n TabOk.at (TabOk.n TabOk.at TabOk.e TabOk.e) TabOk.e) (TabOk.n TabOk.at TabOk.e TabOk.e)))) (TabOk.n TabOk.no (TabOk.n TabOk.at (TabOk.n TabOk.at (TabOk.n TabOk.at (TabOk.n TabOk.at TabOk.e TabOk.e) TabOk.e) (TabOk.n TabOk.at TabOk.e TabOk.e)) (TabOk.n TabOk.at (TabOk.n TabOk.at (TabOk.n TabOk.at TabOk.e TabOk.e) TabOk.e) (TabOk.n TabOk.at TabOk.e TabOk.e))) (TabOk.n TabOk.at (TabOk.n TabOk.at (TabOk.n TabOk.at (TabOk.n TabOk.at TabOk.e TabOk.e) TabOk.e) (TabOk.n TabOk.at TabOk.e TabOk.e)) (TabOk.n TabOk.at (TabOk.n TabOk.at (TabOk.n TabOk.at TabOk.e TabOk.e) TabOk.e) (TabOk.n TabOk.at TabOk.e TabOk.e))))) (TabOk.n TabOk.no (TabOk.n TabOk.no (TabOk.n TabOk.no (TabOk.n TabOk.at (TabOk.n TabOk.at (TabOk.n TabOk.at TabOk.e TabOk.e) TabOk.e) (TabOk.n TabOk.at (TabOk.n TabOk.at TabOk.e TabOk.e) TabOk.e)) (TabOk.n TabOk.at (TabOk.n TabOk.at (TabOk.n TabOk.at TabOk.e TabOk.e) TabOk.e) (TabOk.n TabOk.at TabOk.e TabOk.e))) (TabOk.n TabOk.at (TabOk.n TabOk.at (TabOk.n TabOk.at (TabOk.n TabOk.at TabOk.e TabOk.e) TabOk.e) (TabOk.n TabOk.at TabOk.e TabOk.e)) (TabOk.n TabOk.at (TabOk.n TabOk.at (TabOk.n TabOk.at TabOk.e TabOk.e) TabOk.e) (TabOk.n TabOk.at TabOk.e TabOk.e)))) (TabOk.n TabOk.no (TabOk.n TabOk.at (TabOk.n TabOk.at (TabOk.n TabOk.at (TabOk.n TabOk.at TabOk.e TabOk.e) TabOk.e) (TabOk.n TabOk.at TabOk.e TabOk.e)) (TabOk.n TabOk.at (TabOk.n TabOk.at (TabOk.n TabOk.at TabOk.e TabOk.e) TabOk.e) (TabOk.n TabOk.at TabOk.e TabOk.e))) (TabOk.n TabOk.at (TabOk.n TabOk.at (TabOk.n TabOk.at (TabOk.n TabOk.at TabOk.e TabOk.e) TabOk.e) (TabOk.n TabOk.at TabOk.e TabOk.e)) (TabOk.n TabOk.at (TabOk.n TabOk.at (TabOk.n TabOk.at TabOk.e TabOk.e) TabOk.e) (TabOk.n TabOk.at TabOk.e TabOk.e)))))) (TabOk.n TabOk.no (TabOk.n TabOk.no (TabOk.n TabOk.no (TabOk.n TabOk.no (TabOk.n TabOk.at (TabOk.n TabOk.at (TabOk.n TabOk.at TabOk.e TabOk.e) TabOk.e) (TabOk.n TabOk.at (TabOk.n TabOk.at TabOk.e TabOk.e) TabOk.e)) (TabOk.n TabOk.at (TabOk.n TabOk.at (TabOk.n TabOk.at TabOk.e TabOk.e) TabOk.e) (TabOk.n TabOk.at TabOk.e TabOk.e))) (TabOk.n TabOk.at (TabOk.n TabOk.at (TabOk.n TabOk.at (TabOk.n TabOk.at TabOk.e TabOk.e) TabOk.e) (TabOk.n TabOk.at TabOk.e TabOk.e)) (TabOk.n TabOk.at (TabOk.n TabOk.at (TabOk.n TabOk.at TabOk.e TabOk.e) TabOk.e) (TabOk.n TabOk.at TabOk.e TabOk.e)))) (TabOk.n TabOk.no (TabOk.n TabOk.at (TabOk.n TabOk.at (TabOk.n TabOk.at (TabOk.n TabOk.at TabOk.e TabOk.e) TabOk.e) (TabOk.n TabOk.at TabOk.e TabOk.e)) (TabOk.n TabOk.at (TabOk.n TabOk.at (TabOk.n TabOk.at TabOk.e TabOk.e) TabOk.e) (TabOk.n TabOk.at TabOk.e TabOk.e))) (TabOk.n TabOk.at (TabOk.n TabOk.at (TabOk.n TabOk.at (TabOk.n TabOk.at TabOk.e TabOk.e) TabOk.e) (TabOk.n TabOk.at TabOk.e TabOk.e)) (TabOk.n TabOk.at (TabOk.n TabOk.at (TabOk.n TabOk.at TabOk.e TabOk.e) TabOk.e) (TabOk.n TabOk.at TabOk.e TabOk.e))))) (TabOk.n TabOk.no (TabOk.n TabOk.no (TabOk.n TabOk.no (TabOk.n TabOk.at (TabOk.n TabOk.at (TabOk.n TabOk.at TabOk.e TabOk.e) TabOk.e) (TabOk.n TabOk.at TabOk.e TabOk.e)) (TabOk.n TabOk.at (TabOk.n TabOk.at (TabOk.n TabOk.at TabOk.e TabOk.e) TabOk.e) (TabOk.n TabOk.at TabOk.e TabOk.e))) (TabOk.n TabOk.at (TabOk.n TabOk.at (TabOk.n TabOk.at (TabOk.n TabOk.at TabOk.e TabOk.e) TabOk.e) (TabOk.n TabOk.at TabOk.e TabOk.e)) (TabOk.n TabOk.at (TabOk.n TabOk.at (TabOk.n TabOk.at TabOk.e TabOk.e) TabOk.e) (TabOk.n TabOk.at TabOk.e TabOk.e)))) (TabOk.n TabOk.no (TabOk.n TabOk.at (TabOk.n TabOk.at (TabOk.n TabOk.at (TabOk.n TabOk.at TabOk.e TabOk.e) TabOk.e) (TabOk.n TabOk.at TabOk.e TabOk.e)) (TabOk.n TabOk.at (TabOk.n TabOk.at (TabOk.n TabOk.at TabOk.e TabOk.e) TabOk.e) (TabOk.n TabOk.at TabOk.e TabOk.e))) (TabOk.n TabOk.at (TabOk.n TabOk.at (TabOk.n TabOk.at (TabOk.n TabOk.at TabOk.e TabOk.e) TabOk.e) (TabOk.n TabOk.at TabOk.e TabOk.e)) (TabOk.n TabOk.at (TabOk.n TabOk.at (TabOk.n TabOk.at TabOk.e TabOk.e) TabOk.e) (TabOk.n TabOk.at TabOk.e TabOk.e)))))))
set_option maxRecDepth 100000
set_option maxRecDepth 1000000
set_option maxRecDepth 100000
theorem Cm (l : List (List Hr)) : cG (aO nS l) := fP jF l
theorem Ch (l : List Hr) : cG (aO DJ l) := fP HG l
set_option maxRecDepth 1000000
set_option maxRecDepth 100000
theorem FitP.spot {ps : List (Bool × List CK)} {ds : List D} (h : FitP ((true, [.i .i64, .i .i64]) :: ps) ds) : ∃ (p : Int × Int) (ds' : List D), ds = .ag (cX p) :: ds' ∧ (i64 p.1 ∧ i64 p.2) ∧ FitP ps ds' := by
  unfold FitP at h
  obtain ⟨es, ds', rfl, h1, h2⟩ := h
  simp only [FitL, fD] at h1
  obtain ⟨d, ds, rfl, ⟨n1, rfl, w1⟩, d2, ds2, rfl, ⟨n2, rfl, w2⟩, rfl⟩ := h1
  exact ⟨(n1, n2), ds', rfl, ⟨rR w1, rR w2⟩, h2⟩
theorem qW (slow : IntKind -> Int -> Int -> Int) (fast : IntKind -> Nat -> Nat -> Nat) (k : IntKind) (m n : Nat) (h1 : Nat.ble m (bT k) = true) (h2 : Nat.ble n (bT k) = true) : BC slow fast k (.ofNat m) (.ofNat n) = .ofNat (fast k m n) := by
 show (bif Nat.ble m (bT k) && Nat.ble n (bT k) then Int.ofNat (fast k m n) else slow k (.ofNat m) (.ofNat n)) = _
 rw [h1, h2]
 rfl
theorem FR (a b : Int) (f : D -> Option X) : fO .or (.i .i64 a) (.i .i64 b) f = eQ .i64 (Mn .i64 a b) f := rfl
theorem FQ {m j q : Nat} : (m ||| 1 * 2 ^ j).testBit q = (m.testBit q || decide (j = q)) := by
 rw [Nat.testBit_or, Nat.one_mul, Nat.testBit_two_pow]
theorem EQ (a b : Int) (f : D -> Option X) : fO .and (.i .i64 a) (.i .i64 b) f = eQ .i64 (Gi .i64 a b) f := rfl
theorem sV {a : Nat} (h : a < 1024) : Nat.ble a (bT .i64) = true := Nat.ble_eq_true_of_le (Nat.le_trans (show a <= 1023 by omega) (of_decide_eq_true rfl))
theorem WSt.orB {sl : T D} {ob : T C} {nx : Pos} {lg : Option (T Bool)} {K : X -> Prop} {d : Pos} {a b : Nat} {x y : RX} (hx : bC sl x = some (.i .i64 (a : Int))) (hy : bC sl y = some (.i .i64 (b : Int))) (ha : a < 1024) (hb : b < 1024) (k : dG sl ob nx lg d K (.i .i64 ((a ||| b : Nat) : Int))) : WSt (.bin d .or x y) ⟨sl, ob, nx, lg⟩ K := by
 obtain ⟨k2, k3⟩ := aT k
 refine ⟨_, ?_, k3⟩
 show dO d .or x y sl ob nx lg = _
 unfold dO
 rw [hx, hy]
 have hs : Mn .i64 ((a : Nat) : Int) ((b : Nat) : Int) = ((a ||| b : Nat) : Int) := qW qU (fun _ m n => Nat.lor m n) .i64 a b (sV ha) (sV hb)
 have hlt : a ||| b < 2 ^ 10 := Nat.or_lt_two_pow (by omega) (by omega)
 show fO .or (.i .i64 ((a : Nat) : Int)) (.i .i64 ((b : Nat) : Int)) _ = _
 rw [FR, hs, aV]
 have hw : IntKind.i64.wrap ((a ||| b : Nat) : Int) = ((a ||| b : Nat) : Int) := InR.i64 (by omega) (by omega)
 rw [hw]
 exact k2
theorem WSt.andB {sl : T D} {ob : T C} {nx : Pos} {lg : Option (T Bool)} {K : X -> Prop} {d : Pos} {a b : Nat} {x y : RX} (hx : bC sl x = some (.i .i64 (a : Int))) (hy : bC sl y = some (.i .i64 (b : Int))) (ha : a < 1024) (hb : b < 1024) (k : dG sl ob nx lg d K (.i .i64 ((a &&& b : Nat) : Int))) : WSt (.bin d .and x y) ⟨sl, ob, nx, lg⟩ K := by
 obtain ⟨k2, k3⟩ := aT k
 refine ⟨_, ?_, k3⟩
 show dO d .and x y sl ob nx lg = _
 unfold dO
 rw [hx, hy]
 have hs : Gi .i64 ((a : Nat) : Int) ((b : Nat) : Int) = ((a &&& b : Nat) : Int) := qW mH (fun _ m n => Nat.land m n) .i64 a b (sV ha) (sV hb)
 have hlt : a &&& b <= a := Nat.and_le_left
 show fO .and (.i .i64 ((a : Nat) : Int)) (.i .i64 ((b : Nat) : Int)) _ = _
 rw [EQ, hs, aV]
 have hw : IntKind.i64.wrap ((a &&& b : Nat) : Int) = ((a &&& b : Nat) : Int) := InR.i64 (by omega) (by omega)
 rw [hw]
 exact k2
section
variable {sl : T D} {ob : T C} {nx : Pos} {lg : Option (T Bool)} {K : X -> Prop} {d : Pos} {a b j : Nat} {x y : RX} {k kk : IntKind}
theorem WSt.shlU (hx : bC sl x = some (.i .i64 (a : Int))) (hy : bC sl y = some (.i kk (j : Int))) (ha : a * 2 ^ j <= 1000) (hj : j <= 63) (h : dG sl ob nx lg d K (.i .i64 ((a * 2 ^ j : Nat) : Int))) : WSt (.bin d .shl x y) ⟨sl, ob, nx, lg⟩ K := by
 obtain ⟨k2, k3⟩ := aT h
 refine ⟨_, ?_, k3⟩
 show dO d .shl x y sl ob nx lg = _
 unfold dO
 rw [hx, hy]
 have hm : pG j 64 = j := by
  unfold pG
  rw [Nat.ble_eq_true_of_le (show j <= 64 by omega)]
  rfl
 have hs : Cr ((a : Nat) : Int) j = ((a * 2 ^ j : Nat) : Int) := rfl
 show eQ .i64 (Cr ((a : Nat) : Int) (pG j 64)) _ = _
 rw [hm, hs, aV]
 have hw : IntKind.i64.wrap ((a * 2 ^ j : Nat) : Int) = ((a * 2 ^ j : Nat) : Int) := InR.i64 (by omega) (by omega)
 rw [hw]
 exact k2
end
def nD (A : List Int) : List D := A.map fun n => D.i .i64 n
theorem Fm (A : List Int) (n : Int) : nD (A ++ [n]) = nD A ++ [.i .i64 n] := by simp [nD]
theorem GM (L : List Int) : aN (nD L) := Be L
def xL : List Int -> D
 | [] => .ns
 | a :: l => .lst 1 (ints (a :: l))
theorem pZ (S : List Int) : Pu (xL S) := by
 cases S with
 | nil => trivial
 | cons a l => exact aC _
theorem Fl (k : IntKind) (l : List Int) : cG (JN k l) := qA.2 fun r hr => by
  obtain ⟨n, _, rfl⟩ := List.mem_map.1 hr
  simp [aN, Pu]
def FM (A : List Int) (x : Int) : Int :=
 match (List.range A.length).find? fun i : Nat => decide (x = A.getD i 0) with
 | some n => (n : Int)
 | none => -1
theorem FX (A : List Int) (x : Int) (hl : A.length <= 1000) : PureF Tryz.prog p161.ix [.lst 1 (ints A), .i .i64 x] (.i .i64 (FM A x)) := by
 have e1 := aI A
 refine PureF.run GD (by simp) (by simp [aN, cG, Pu, aC]) ?_; conv => whnf
 refine Qg ?_
 refine Rn.loop (fun j : Nat => ⟨(.n (.n (.n (.n .e (some (.i .i64 (A.length : Int))) .e) none .e) (some (.i .i64 x)) .e) (some (.lst 1 (ints A))) (.n (.n (.n .e (some (.i .i64 (j : Int))) .e) none .e) none .e)), .e, .h, none⟩) (fun j => j <= A.length /\ ∀ i, i < j -> decide (x = A.getD i 0) = false) (fun j => A.length - j) 0 ?_ ?_ ?_
 ·refine X.le.mk ?_ (T.le_e _) (Nat.le_refl _) rfl rfl
  show T.le ((.n (.n (.n (.n .e (some (.i .i64 (A.length : Int))) .e) none .e) (some (.i .i64 x)) .e) (some (.lst 1 (ints A))) (.n (.n (.n .e (some (.i .i64 0)) .e) none .e) none .e)) : T D) _
  rw [<- e1]
  exact IA
 ·exact ⟨Nat.zero_le _, fun i h => by omega⟩
 rintro j ⟨hj, ha⟩
 conv => whnf
 refine Qg ?_
 refine WB.dec (fun h => ?_) (fun h => ?_) <;> conv => whnf
 ·have hlt : j < A.length := by omega
  refine Qg ?_
  refine WB.dec (fun h => ?_) (fun h => ?_) <;> conv => whnf
  ·have hx : x = A.getD j 0 := h
   refine Qg ?_
   refine Fin.i rfl ?_
   unfold FM
   rw [List.find?_range_eq_some.2 ⟨decide_eq_true hx, List.mem_range.2 hlt, fun i hi => by rw [ha i hi]; rfl⟩]
  ·have hx : ¬ x = A.getD j 0 := h
   refine Qg ?_
   refine Again.to (j + 1) (by omega) ⟨by omega, fun i hi => ?_⟩ (Nat.le_refl _) ?_
   ·by_cases e : i = j
    ·subst e; exact decide_eq_false hx
    ·exact ha i (by omega)
   (refine Shr.of ?_ ?_ rfl rfl) <;> (repeat' first | exact Rel.e | refine Rel.some ?_ ?_ ?_ | refine Rel.none ?_ ?_) <;> (try first | (show Fz _ _ _ _; first | exact Fz.pu trivial | (refine Fz.i ?_; first | rfl | omega) | (refine Fz.kpt ?_; (focus (show Pos.nat _ < Pos.nat _; simp [Pos.nat]; done))) | (refine Fz.ksl ?_; (focus (show Pos.nat _ < Pos.nat _; simp [Pos.nat]; done))) | (refine Fz.kmp ?_; (focus (show Pos.nat _ < Pos.nat _; simp [Pos.nat]; done))) | (refine Fz.pu ?_; simp [Cell.d, Pu, aN, cG, aC, aF, aG, aM]; done) | (refine Fz.pu ?_; simp only [Cell.d]; assumption)) | (refine RO'.of ?_ (ShC.same ?_); (focus (show Pos.nat _ < Pos.nat _; simp [Pos.nat]; done)); (repeat' first | exact ShC.nl | refine ShC.cn ?_ ?_) <;> first | exact Fz.pu trivial | (refine Fz.i ?_; first | rfl | omega) | (refine Fz.kpt ?_; (focus (show Pos.nat _ < Pos.nat _; simp [Pos.nat]; done))) | (refine Fz.ksl ?_; (focus (show Pos.nat _ < Pos.nat _; simp [Pos.nat]; done))) | (refine Fz.kmp ?_; (focus (show Pos.nat _ < Pos.nat _; simp [Pos.nat]; done))) | (refine Fz.pu ?_; simp [Cell.d, Pu, aN, cG, aC, aF, aG, aM]; done) | (refine Fz.pu ?_; simp only [Cell.d]; assumption)))
   all_goals first | (refine Fz.i ?_; omega) | (refine Fz.pu ?_; simp [Pu, aC])
 ·refine Qg ?_
  refine Fin.i rfl ?_
  unfold FM
  rw [List.find?_range_eq_none.2 fun i hi => by rw [ha i (by omega)]; rfl]
def pO (A : List Int) (x : Int) : Bool := decide (0 <= FM A x)
theorem yX (A : List Int) (x : Int) (hl : A.length <= 1000) : PureF Tryz.prog p159.ix [.lst 1 (ints A), .i .i64 x] (.b (pO A x)) := by
 have iI := FX A x hl
 refine PureF.run GN (by simp) (by simp [aN, cG, Pu, aC]) ?_; conv => whnf
 repeat' ((first | refine Qz ?_ | refine Qf iI ?_) <;> conv => whnf)
 exact Fin.b rfl rfl
theorem Do (x : Int) : PureF Tryz.prog p161.ix [.ns, .i .i64 x] (.i .i64 (-1)) := by
 refine PureF.run GD (by simp) (by simp [aN, cG, Pu]) ?_; conv => whnf
 refine Qg ?_
 refine Rn.loop (fun _ : Nat => ⟨(.n (.n (.n (.n .e (some (.i .i64 0)) .e) none .e) (some (.i .i64 x)) .e) (some (.ns)) (.n (.n (.n .e (some (.i .i64 0)) .e) none .e) none .e)), .e, .h, none⟩) (fun _ => True) (fun _ => 0) 0 ?_ ?_ ?_
 ·(first | (refine X.le.mk ?_ ?_ (Nat.le_refl _) rfl rfl) | skip) <;> (repeat' first | exact T.le_e _ | refine T.le_some ?_ ?_ ?_ | refine T.le_none ?_ ?_ | rfl)
 ·trivial
 intro j _
 conv => whnf
 refine Qg ?_
 refine WB.ff ?_; conv => whnf
 refine Qg ?_
 exact Fin.i rfl rfl
theorem wV (x : Int) : PureF Tryz.prog p159.ix [.ns, .i .i64 x] (.b (pO [] x)) := by
 have iI := Do x
 refine PureF.run GN (by simp) (by simp [aN, cG, Pu]) ?_; conv => whnf
 repeat' ((first | refine Qz ?_ | refine Qf iI ?_) <;> conv => whnf)
 exact Fin.b rfl rfl
theorem WSt.shrN {sl : T D} {ob : T C} {nx : Pos} {lg : Option (T Bool)} {K : X -> Prop} {d : Pos} {a j : Nat} {x y : RX} (hx : bC sl x = some (.i .i64 (a : Int))) (hy : bC sl y = some (.i .u64 (j : Int))) (ha : a <= 1000) (hj : j <= 63) (k : dG sl ob nx lg d K (.i .i64 ((a / 2 ^ j : Nat) : Int))) : WSt (.bin d .shr x y) ⟨sl, ob, nx, lg⟩ K := by
 obtain ⟨k2, k3⟩ := aT k
 refine ⟨_, ?_, k3⟩
 show dO d .shr x y sl ob nx lg = _
 unfold dO
 rw [hx, hy]
 have hm : pG j 64 = j := by
  unfold pG
  rw [Nat.ble_eq_true_of_le (show j <= 64 by omega)]
  rfl
 have hs : Df ((a : Nat) : Int) j = ((a / 2 ^ j : Nat) : Int) := rfl
 have hb : Nat.ble (a / 2 ^ j) 9223372036854775807 = true := Nat.ble_eq_true_of_le (Nat.le_trans (Nat.div_le_self _ _) (by omega))
 show DB .i64 (Df ((a : Nat) : Int) (pG j 64)) _ = _
 rw [hm, hs]
 rw [pX]
 exact k2
def qP (p : Nat -> Bool) (n : Nat) : Nat := (List.range n).foldl (fun b k => if p k = true then b ||| 1 * 2 ^ k else b) 0
theorem iQ (p : Nat -> Bool) (n : Nat) : qP p (n + 1) = if p n = true then qP p n ||| 1 * 2 ^ n else qP p n := by
 unfold qP
 rw [List.range_succ, List.foldl_append]
 rfl
theorem wW (p : Nat -> Bool) : ∀ n, qP p n < 2 ^ n
 | 0 => by show 0 < 1; omega
 | n + 1 => by
   have h := wW p n
   have h2 : (2 : Nat) ^ (n + 1) = 2 * 2 ^ n := by rw [Nat.pow_succ]; omega
   rw [iQ]
   split
   ·exact Nat.or_lt_two_pow (by omega) (by have := Nat.one_le_two_pow (n := n); omega)
   ·omega
theorem lD (p : Nat -> Bool) : ∀ n q, (qP p n).testBit q = (decide (q < n) && p q)
 | 0, q => by
   rw [decide_eq_false (Nat.not_lt_zero q), Bool.false_and]
   exact Nat.zero_testBit q
 | n + 1, q => by
   rw [iQ]
   have ih := lD p n q
   by_cases hp : p n = true
   ·rw [if_pos hp, FQ, ih]
    by_cases e : n = q
    ·subst e
     rw [hp, decide_eq_true (show n < n + 1 by omega)]
     simp
    ·rw [decide_eq_false e, Bool.or_false]
     by_cases e2 : q < n
     ·rw [decide_eq_true e2, decide_eq_true (show q < n + 1 by omega)]
     ·rw [decide_eq_false e2, decide_eq_false (show ¬ q < n + 1 by omega)]
   ·rw [if_neg hp, ih]
    have hp : p n = false := by simpa using hp
    by_cases e : n = q
    ·subst e
     rw [hp]
     simp
    ·by_cases e2 : q < n
     ·rw [decide_eq_true e2, decide_eq_true (show q < n + 1 by omega)]
     ·rw [decide_eq_false e2, decide_eq_false (show ¬ q < n + 1 by omega)]
def jM (A : List Nat) : List Int := A.map fun n : Nat => (n : Int)
theorem Gj {A : List Nat} {j : Nat} : (jM A).getD j 0 = ((A.getD j 0 : Nat) : Int) := by
 unfold jM
 by_cases h : j < A.length
 ·simp [List.getD, h]
 ·simp [List.getD, List.getElem?_eq_none (show A.length <= j by omega)]
theorem pC (A : List Nat) : (jM A).length = A.length := List.length_map _
def eU (A : List Nat) (m : Nat) : Bool := (List.range A.length).any fun i => decide (A.getD i 0 &&& m = m)
theorem Gv (A : List Nat) (m : Nat) (hl : A.length <= 3000) (hA : ∀ b ∈ A, b < 1024) (hm : m < 1024) : PureF Tryz.prog p113.ix [.lst 1 (ints (jM A)), .i .i64 (m : Int)] (.b (eU A m)) := by
 have e1 := (aI (jM A)).trans (pC A)
 have e2 := pC A
 refine PureF.run LC (by simp) (by simp [aN, cG, Pu, aC]) ?_; conv => whnf
 refine Qg ?_
 refine Rn.loop (fun j : Nat => ⟨(.n (.n .e (some (.i .i64 (m : Int))) (.n .e (some (.i .i64 (j : Int))) .e)) (some (.lst 1 (ints (jM A)))) .e), .e, .h, none⟩) (fun j => j <= A.length /\ ∀ i, i < j -> decide (A.getD i 0 &&& m = m) = false) (fun j => A.length - j) 0 ?_ ?_ ?_
 ·(first | (refine X.le.mk ?_ ?_ (Nat.le_refl _) rfl rfl) | skip) <;> (repeat' first | exact T.le_e _ | refine T.le_some ?_ ?_ ?_ | refine T.le_none ?_ ?_ | rfl)
 ·exact ⟨Nat.zero_le _, fun i h => by omega⟩
 rintro j ⟨hj, ha⟩
 conv => whnf
 refine Qg ?_
 refine WB.dec (fun h => ?_) (fun h => ?_) <;> conv => whnf
 ·have hlt : j < A.length := by omega
  have hlt2 : j < (jM A).length := by omega
  have hb := hA _ (bA (d := 0) hlt)
  have hat := Gj (A := A) (j := j)
  refine Qg ?_
  refine WSt.andB (a := A.getD j 0) (b := m) (by rw [<- hat]; rfl) (by rfl) hb hm ?_; conv => whnf
  refine Qg ?_
  refine WB.dec (fun h => ?_) (fun h => ?_) <;> conv => whnf
  ·have hx : A.getD j 0 &&& m = m := by omega
   refine Qg ?_
   refine Fin.b rfl ?_
   unfold eU
   exact (List.any_eq_true.2 ⟨j, List.mem_range.2 hlt, decide_eq_true hx⟩).symm
  ·have hx : ¬ A.getD j 0 &&& m = m := by omega
   refine Qg ?_
   refine Again.to (j + 1) (by omega) ⟨by omega, fun i hi => ?_⟩ (Nat.le_refl _) ?_
   ·by_cases e : i = j
    ·subst e; exact decide_eq_false hx
    ·exact ha i (by omega)
   (refine Shr.of ?_ ?_ rfl rfl) <;> (repeat' first | exact Rel.e | refine Rel.some ?_ ?_ ?_ | refine Rel.none ?_ ?_) <;> (try first | (show Fz _ _ _ _; first | exact Fz.pu trivial | (refine Fz.i ?_; first | rfl | omega) | (refine Fz.kpt ?_; (focus (show Pos.nat _ < Pos.nat _; simp [Pos.nat]; done))) | (refine Fz.ksl ?_; (focus (show Pos.nat _ < Pos.nat _; simp [Pos.nat]; done))) | (refine Fz.kmp ?_; (focus (show Pos.nat _ < Pos.nat _; simp [Pos.nat]; done))) | (refine Fz.pu ?_; simp [Cell.d, Pu, aN, cG, aC, aF, aG, aM]; done) | (refine Fz.pu ?_; simp only [Cell.d]; assumption)) | (refine RO'.of ?_ (ShC.same ?_); (focus (show Pos.nat _ < Pos.nat _; simp [Pos.nat]; done)); (repeat' first | exact ShC.nl | refine ShC.cn ?_ ?_) <;> first | exact Fz.pu trivial | (refine Fz.i ?_; first | rfl | omega) | (refine Fz.kpt ?_; (focus (show Pos.nat _ < Pos.nat _; simp [Pos.nat]; done))) | (refine Fz.ksl ?_; (focus (show Pos.nat _ < Pos.nat _; simp [Pos.nat]; done))) | (refine Fz.kmp ?_; (focus (show Pos.nat _ < Pos.nat _; simp [Pos.nat]; done))) | (refine Fz.pu ?_; simp [Cell.d, Pu, aN, cG, aC, aF, aG, aM]; done) | (refine Fz.pu ?_; simp only [Cell.d]; assumption)))
   all_goals first | (refine Fz.i ?_; omega) | (refine Fz.pu ?_; simp [Pu, aC])
 ·refine Qg ?_
  refine Fin.b rfl ?_
  unfold eU
  symm
  rw [Bool.eq_false_iff]
  intro hx
  obtain ⟨i, hi, hp⟩ := List.any_eq_true.1 hx
  rw [ha i (by have := List.mem_range.1 hi; omega)] at hp
  cases hp
def lC : List Int -> List Int -> Bool
 | [], [] => false
 | [], _ :: _ => true
 | _ :: _, [] => false
 | a :: A, b :: B => if a = b then lC A B else decide (a < b)
theorem BH {A B : List Int} : ∀ j, j < A.length -> j < B.length -> lC (A.drop j) (B.drop j) = if A.getD j 0 = B.getD j 0 then lC (A.drop (j + 1)) (B.drop (j + 1)) else decide (A.getD j 0 < B.getD j 0) := fun j h1 h2 => by
 rw [List.drop_eq_getElem_cons h1, List.drop_eq_getElem_cons h2]
 simp [lC, List.getD, h1, h2]
theorem DT {A B : List Int} {j : Nat} (h : ¬ (j < A.length /\ j < B.length)) (hA : j <= A.length) (hB : j <= B.length) : lC (A.drop j) (B.drop j) = decide (A.length < B.length) := by
 by_cases h1 : j < A.length
 ·have h2 : ¬ j < B.length := fun k => h ⟨h1, k⟩
  rw [List.drop_eq_getElem_cons h1, List.drop_eq_nil_of_le (show B.length <= j by omega), decide_eq_false (by omega)]
  rfl
 ·rw [List.drop_eq_nil_of_le (show A.length <= j by omega)]
  by_cases h2 : j < B.length
  ·rw [List.drop_eq_getElem_cons h2, decide_eq_true (by omega)]
   rfl
  ·rw [List.drop_eq_nil_of_le (show B.length <= j by omega), decide_eq_false (by omega)]
   rfl
theorem BY (A B : List Int) (hA : A.length <= 1000) (hB : B.length <= 1000) : PureF Tryz.prog p115.ix [.lst 1 (ints A), .lst 1 (ints B)] (.b (lC A B)) := by
 have e1 := aI A
 have e2 := aI B
 refine PureF.run LB (by simp) (by simp [aN, cG, Pu, aC]) ?_; conv => whnf
 refine Qg ?_
 refine Rn.loop (fun j : Nat => ⟨(.n (.n .e (some (.lst 1 (ints B))) (.n .e (some (.i .i64 (j : Int))) .e)) (some (.lst 1 (ints A))) .e), .e, .h, none⟩) (fun j => j <= A.length /\ j <= B.length /\ lC (A.drop j) (B.drop j) = lC A B) (fun j => A.length - j) 0 ?_ ?_ ?_
 ·(first | (refine X.le.mk ?_ ?_ (Nat.le_refl _) rfl rfl) | skip) <;> (repeat' first | exact T.le_e _ | refine T.le_some ?_ ?_ ?_ | refine T.le_none ?_ ?_ | rfl)
 ·exact ⟨Nat.zero_le _, Nat.zero_le _, rfl⟩
 rintro j ⟨hj, hk, ha⟩
 have hj : j <= A.length := hj
 have hk : j <= B.length := hk
 conv => whnf
 by_cases hlt : j < A.length /\ j < B.length
 ·obtain ⟨h1, h2⟩ := hlt
  have hd := BH (A := A) (B := B) j h1 h2
  by_cases hx : A.getD j 0 = B.getD j 0
  ·rw [if_pos hx] at hd
   repeat' first | ((first | refine Qw ?_ | refine Qf e1 ?_ | refine Qd (fun h => ?_) (fun h => ?_)) <;> conv => whnf) | (refine WB.tt ?_; conv => whnf) | (refine WB.ff ?_; conv => whnf)
   refine Again.to (j + 1) (by omega) ⟨by omega, by omega, by rw [<- hd]; exact ha⟩ (Nat.le_refl _) ?_
   (refine Shr.of ?_ ?_ rfl rfl) <;> (repeat' first | exact Rel.e | refine Rel.some ?_ ?_ ?_ | refine Rel.none ?_ ?_) <;> (try first | (show Fz _ _ _ _; first | exact Fz.pu trivial | (refine Fz.i ?_; first | rfl | omega) | (refine Fz.kpt ?_; (focus (show Pos.nat _ < Pos.nat _; simp [Pos.nat]; done))) | (refine Fz.ksl ?_; (focus (show Pos.nat _ < Pos.nat _; simp [Pos.nat]; done))) | (refine Fz.kmp ?_; (focus (show Pos.nat _ < Pos.nat _; simp [Pos.nat]; done))) | (refine Fz.pu ?_; simp [Cell.d, Pu, aN, cG, aC, aF, aG, aM]; done) | (refine Fz.pu ?_; simp only [Cell.d]; assumption)) | (refine RO'.of ?_ (ShC.same ?_); (focus (show Pos.nat _ < Pos.nat _; simp [Pos.nat]; done)); (repeat' first | exact ShC.nl | refine ShC.cn ?_ ?_) <;> first | exact Fz.pu trivial | (refine Fz.i ?_; first | rfl | omega) | (refine Fz.kpt ?_; (focus (show Pos.nat _ < Pos.nat _; simp [Pos.nat]; done))) | (refine Fz.ksl ?_; (focus (show Pos.nat _ < Pos.nat _; simp [Pos.nat]; done))) | (refine Fz.kmp ?_; (focus (show Pos.nat _ < Pos.nat _; simp [Pos.nat]; done))) | (refine Fz.pu ?_; simp [Cell.d, Pu, aN, cG, aC, aF, aG, aM]; done) | (refine Fz.pu ?_; simp only [Cell.d]; assumption)))
   all_goals first | (refine Fz.i ?_; omega) | (refine Fz.pu ?_; simp [Pu, aC])
  ·rw [if_neg hx] at hd
   repeat' first | ((first | refine Qw ?_ | refine Qf e1 ?_ | refine Qd (fun h => ?_) (fun h => ?_)) <;> conv => whnf) | (refine WB.tt ?_; conv => whnf) | (refine WB.ff ?_; conv => whnf)
   exact Fin.b rfl (hd.symm.trans ha)
 ·have hd := DT hlt hj hk
  rw [<- ha, hd]
  by_cases h1 : j < A.length
  ·have h2 : ¬ j < B.length := fun k => hlt ⟨h1, k⟩
   repeat' first | ((first | refine Qw ?_ | refine Qf e1 ?_ | refine Qd (fun h => ?_) (fun h => ?_)) <;> conv => whnf) | (refine WB.tt ?_; conv => whnf) | (refine WB.ff ?_; conv => whnf)
   exact Fin.b rfl (by congr 1; apply propext; omega)
  ·repeat' first | ((first | refine Qw ?_ | refine Qf e1 ?_ | refine Qd (fun h => ?_) (fun h => ?_)) <;> conv => whnf) | (refine WB.tt ?_; conv => whnf) | (refine WB.ff ?_; conv => whnf)
   exact Fin.b rfl (by congr 1; apply propext; omega)
def hU (A B : List Int) : Bool := decide (A.length < B.length) || (decide (A.length = B.length) && lC A B)
theorem Bu (A B : List Int) (hA : A.length <= 1000) (hB : B.length <= 1000) : PureF Tryz.prog p76.ix [.lst 1 (ints A), .lst 1 (ints B)] (.b (hU A B)) := by
 have e1 := aI A
 have e2 := aI B
 have cB := BY A B hA hB
 unfold hU
 refine PureF.run Og (by simp) (by simp [aN, cG, Pu, aC]) ?_; conv => whnf
 by_cases h1 : A.length < B.length
 ·rw [decide_eq_true h1, Bool.true_or]
  repeat' first | ((first | refine Qw ?_ | refine Qf cB ?_ | refine Qd (fun h => ?_) (fun h => ?_)) <;> conv => whnf) | (refine WB.tt ?_; conv => whnf) | (refine WB.ff ?_; conv => whnf)
  exact Fin.b rfl rfl
 ·rw [decide_eq_false h1, Bool.false_or]
  by_cases h2 : A.length = B.length
  ·rw [decide_eq_true h2, Bool.true_and]
   repeat' first | ((first | refine Qw ?_ | refine Qf cB ?_ | refine Qd (fun h => ?_) (fun h => ?_)) <;> conv => whnf) | (refine WB.tt ?_; conv => whnf) | (refine WB.ff ?_; conv => whnf)
   exact Fin.b rfl rfl
  ·rw [decide_eq_false h2, Bool.false_and]
   repeat' first | ((first | refine Qw ?_ | refine Qf cB ?_ | refine Qd (fun h => ?_) (fun h => ?_)) <;> conv => whnf) | (refine WB.tt ?_; conv => whnf) | (refine WB.ff ?_; conv => whnf)
   exact Fin.b rfl rfl
def fA (b j : Nat) : List Int := ((List.range j).filter fun p => b.testBit p).map fun p : Nat => (p : Int)
def fL (b : Nat) : List Int := fA b 10
theorem tJ (b j : Nat) : fA b (j + 1) = if b / 2 ^ j % 2 = 1 then fA b j ++ [(j : Int)] else fA b j := by
 unfold fA
 rw [List.range_succ, List.filter_append, List.map_append]
 have e : b.testBit j = decide (b / 2 ^ j % 2 = 1) := Nat.testBit_eq_decide_div_mod_eq
 by_cases h : b / 2 ^ j % 2 = 1
 ·rw [if_pos h]
  simp [e, h]
 ·rw [if_neg h]
  simp [e, h]
theorem CV {b j : Nat} (hj : j <= 10) (h : b / 2 ^ j = 0) : fA b j = fL b := by
 have hb : b < 2 ^ j := by
  have := Nat.div_eq_zero_iff.1 h
  rcases this with h | h
  ·exact absurd h (by have := Nat.one_le_two_pow (n := j); omega)
  ·exact h
 unfold fL
 have key : ∀ d, j + d <= 10 -> fA b (j + d) = fA b j := fun d => by
  induction d with
  | zero => exact fun _ => rfl
  | succ d ih =>
    intro hd
    rw [<- Nat.add_assoc, tJ, ih (by omega)]
    have hz : b / 2 ^ (j + d) = 0 := Nat.div_eq_of_lt (Nat.lt_of_lt_of_le hb (Nat.pow_le_pow_right (by omega) (by omega)))
    rw [hz, if_neg (by decide)]
 have := key (10 - j) (by omega)
 rw [show j + (10 - j) = 10 by omega] at this
 exact this.symm
theorem lV (b j : Nat) : (fA b j).length <= j := by
 unfold fA
 rw [List.length_map]
 have := List.length_filter_le (fun p => b.testBit p) (List.range j)
 rw [List.length_range] at this
 exact this
def MB : List Int -> D
 | [] => .ns
 | _ :: s => .sl (.o .h) 0 (s.length + 1) s.length 1
def Ms : List Int -> Option C
 | [] => none
 | a :: s => some (.cells false ((nD (a :: s)).map fun d => Cell.o d s.length) (s.length + 1))
def Gn : List Int -> Pos
 | [] => .h
 | _ :: _ => .i .h
theorem Dq (a : Int) (s : List Int) (x : Int) : MB (a :: (s ++ [x])) = .sl (.o .h) 0 (s.length + 1 + 1) (s.length + 1) 1 := by simp [MB]
theorem EA (a : Int) (s : List Int) (x : Int) : Ms (a :: (s ++ [x])) = some (.cells false ((nD (a :: s) ++ [D.i .i64 x]).map fun d => Cell.o d (s.length + 1)) (s.length + 1 + 1)) := by
 have h2 : nD (a :: (s ++ [x])) = nD (a :: s) ++ [.i .i64 x] := Fm (a :: s) x
 simp [Ms, h2]
def KE (b : Nat) (A : List Int) (j : Nat) : X := ⟨(.n (.n (.n .e (some (MB A)) .e) none .e) (some (.i .i64 (b : Int))) (.n (.n .e (some (.i .i64 (j : Int))) .e) none .e)), .n (.n .e (Ms A) .e) none .e, Gn A, none⟩
theorem Hw (b : Nat) (hb : b <= 1000) : PureF Tryz.prog p77.ix [.i .i64 (b : Int)] (.lst 1 (ints (fL b))) := by
 refine PureF.run Oc (by simp) (by simp [aN, cG, Pu]) ?_; conv => whnf
 refine Qg ?_
 refine Rn.loop (fun j : Nat => KE b (fA b j) j) (fun j => j <= 10 /\ True) (fun j => 10 - j) 0 ?_ ?_ ?_
 ·refine X.le.mk ?_ ?_ (Nat.le_refl _) rfl rfl
  ·exact IA
  ·exact Lw
 ·exact ⟨Nat.zero_le _, trivial⟩
 rintro j ⟨hj, _⟩
 have hsc := tJ b j
 have hAl := lV b j
 have hdl : b / 2 ^ j <= 1000 := Nat.le_trans (Nat.div_le_self _ _) hb
 have hend : b / 2 ^ j = 0 -> fA b j = fL b := fun h => CV hj h
 have h10 : 0 < b / 2 ^ j -> j < 10 := fun h => by
  rcases Nat.lt_or_ge j 10 with h2 | h2
  ·exact h2
  ·have e : j = 10 := by omega
   subst e
   rw [Nat.div_eq_of_lt (show b < 2 ^ 10 by omega)] at h
   omega
 generalize hA : fA b j = A at *
 conv => whnf
 refine Qg ?_
 refine And.intro (InR.u64 (by omega) (by omega)) ?_; conv => whnf
 refine Qg ?_
 refine WSt.shrN (a := b) (by rfl) (by rfl) hb (by omega) ?_; conv => whnf
 refine Qg ?_
 refine WB.dec (fun h => ?_) (fun h => ?_) <;> conv => whnf
 ·have hpos : 0 < b / 2 ^ j := by omega
  have hlt := h10 hpos
  refine Qg ?_
  refine And.intro (InR.u64 (by omega) (by omega)) ?_; conv => whnf
  refine Qg ?_
  refine WSt.shrN (a := b) (by rfl) (by rfl) hb (by omega) ?_; conv => whnf
  have hrem : ((b / 2 ^ j : Nat) : Int).tmod 2 = ((b / 2 ^ j % 2 : Nat) : Int) := by
   rw [Int.tmod_eq_emod_of_nonneg (by omega)]
   rfl
  refine Qg ?_
  rw [hrem]
  by_cases hx : b / 2 ^ j % 2 = 1
  ·rw [if_pos hx] at hsc
   refine WB.decT (by omega) ?_; conv => whnf
   cases A with
   | nil =>
     refine Qg ?_
     refine WSt.app_first (r := [_]) rfl (.inl rfl) rfl rfl rfl rfl ?_; conv => whnf
     refine Qg ?_
     refine Again.to (j + 1) (by omega) ⟨by omega, trivial⟩ (by show (Gn (fA b j)).nat <= (Gn (fA b (j + 1))).nat; rw [hA, hsc]; exact (show 1 <= 3 by omega)) ?_
     show Shr _ (KE b (fA b (j + 1)) (j + 1))
     rw [hsc]
     refine Shr.of ?_ ?_ rfl rfl
     ·(repeat' first | exact Rel.e | refine Rel.some ?_ ?_ ?_ | refine Rel.none ?_ ?_ | refine Rel.ee ?_ ?_)
      all_goals show Fz _ _ _ _
      all_goals first | exact .pu trivial | exact .ksl (Ql rfl)
     ·(repeat' first | exact Rel.e | refine Rel.some ?_ ?_ ?_ | refine Rel.none ?_ ?_ | refine Rel.ee ?_ ?_)
      exact Ro (ShC.same (ShC.cn (.pu trivial) ShC.nl))
   | cons a s =>
     have hs5 : s.length + 1 <= 10 := Nat.le_trans hAl hj
     refine Qg ?_
     refine WSt.app_one (ds := nD (a :: s)) (r := [_]) rfl rfl rfl rfl rfl rfl (by simp [nD]) rfl rfl (by omega) rfl ?_; conv => whnf
     refine Qg ?_
     refine Again.to (j + 1) (by omega) ⟨by omega, trivial⟩ (by show (Gn (fA b j)).nat <= (Gn (fA b (j + 1))).nat; rw [hA, hsc, List.cons_append]; exact (show 3 <= 3 by omega)) ?_
     show Shr _ (KE b (fA b (j + 1)) (j + 1))
     rw [hsc, List.cons_append]
     refine Shr.of ?_ ?_ rfl rfl
     ·show Rel _ _ ((.n (.n (.n .e (some ((MB (a :: (s ++ [(j : Int)]))))) .e) none .e) (some (.i .i64 (b : Int))) (.n (.n .e (some (.i .i64 ((j + 1 : Nat) : Int))) .e) none .e)) : T D) _
      rw [Dq]
      (repeat' first | exact Rel.e | refine Rel.some ?_ ?_ ?_ | refine Rel.none ?_ ?_ | refine Rel.ee ?_ ?_)
      all_goals show Fz _ _ _ _
      all_goals first | exact .pu trivial | exact .ksl (Ql rfl)
     ·show Rel _ _ (.n (.n .e (Ms (a :: (s ++ [(j : Int)]))) .e) none .e) _
      rw [EA]
      (repeat' first | exact Rel.e | refine Rel.some ?_ ?_ ?_ | refine Rel.none ?_ ?_ | refine Rel.ee ?_ ?_)
      exact Ro (ShC.grown (by omega) (aS.2 fun d hd => by
       rcases List.mem_append.1 hd with hd | hd
       ·exact aS.1 (GM _) d hd
       ·simp at hd; subst hd; exact trivial))
  ·rw [if_neg hx] at hsc
   refine WB.decF (by omega) ?_; conv => whnf
   cases A with
   | nil =>
     refine Qg ?_
     refine Again.to (j + 1) (by omega) ⟨by omega, trivial⟩ (by show (Gn (fA b j)).nat <= (Gn (fA b (j + 1))).nat; rw [hA, hsc]; exact (show 1 <= 1 by omega)) ?_
     show Shr _ (KE b (fA b (j + 1)) (j + 1))
     rw [hsc]
     refine Shr.of ?_ ?_ rfl rfl
     ·(repeat' first | exact Rel.e | refine Rel.some ?_ ?_ ?_ | refine Rel.none ?_ ?_ | refine Rel.ee ?_ ?_)
      all_goals show Fz _ _ _ _
      all_goals first | exact .pu trivial | exact .ksl (Ql rfl)
     ·(repeat' first | exact Rel.e | refine Rel.some ?_ ?_ ?_ | refine Rel.none ?_ ?_ | refine Rel.ee ?_ ?_)
   | cons a s =>
     refine Qg ?_
     refine Again.to (j + 1) (by omega) ⟨by omega, trivial⟩ (by show (Gn (fA b j)).nat <= (Gn (fA b (j + 1))).nat; rw [hA, hsc]; exact (show 3 <= 3 by omega)) ?_
     show Shr _ (KE b (fA b (j + 1)) (j + 1))
     rw [hsc]
     refine Shr.of ?_ ?_ rfl rfl
     ·(repeat' first | exact Rel.e | refine Rel.some ?_ ?_ ?_ | refine Rel.none ?_ ?_ | refine Rel.ee ?_ ?_)
      all_goals show Fz _ _ _ _
      all_goals first | exact .pu trivial | exact .ksl (Ql rfl)
     ·(repeat' first | exact Rel.e | refine Rel.some ?_ ?_ ?_ | refine Rel.none ?_ ?_ | refine Rel.ee ?_ ?_)
      exact Ro (ShC.same fun c hc => by
       obtain ⟨d, hd, rfl⟩ := List.mem_map.1 hc
       exact .pu (aS.1 (GM _) d hd))
 ·have hq : b / 2 ^ j = 0 := by
   have h2 : ¬ ((0 : Int) < ((b / 2 ^ j : Nat) : Int)) := h
   revert h2
   generalize b / 2 ^ j = q
   intro h2
   omega
  have he := hend hq
  rw [<- he]
  cases A with
  | nil =>
    refine Qg ?_
    exact Fin.t (.inr rfl) rfl .ns
  | cons a s =>
    refine Qg ?_
    exact Fin.t (.inr rfl) rfl (Frz.whole (cs := (nD (a :: s)).map fun d => Cell.o d s.length) (cur := s.length + 1) rfl (by rw [aI]; rfl) (mL _) (by rw [mP]; rfl) (aC _))
theorem DZ (a b : Int) (f : D -> Option X) : fO .andNot (.i .i64 a) (.i .i64 b) f = eQ .i64 (Dm .i64 a b) f := rfl
theorem FG : ∀ m b : Nat, m <= 5 -> b < 2 ^ m -> Nat.land (2 ^ m - 1) (Nat.sub 18446744073709551615 b) = 2 ^ m - 1 - b := by
 intro m b hm hb
 have h1 : m = 0 \/ m = 1 \/ m = 2 \/ m = 3 \/ m = 4 \/ m = 5 := by omega
 have key : ∀ m : _root_.Fin 6, ∀ b : _root_.Fin 32, b.val < 2 ^ m.val -> Nat.land (2 ^ m.val - 1) (Nat.sub 18446744073709551615 b.val) = 2 ^ m.val - 1 - b.val := by decide +kernel
 have hb2 : b < 32 := Nat.lt_of_lt_of_le hb (Nat.pow_le_pow_right (n := 2) (by omega) hm)
 exact key ⟨m, by omega⟩ ⟨b, hb2⟩ hb
theorem WSt.notB {sl : T D} {ob : T C} {nx : Pos} {lg : Option (T Bool)} {K : X -> Prop} {d : Pos} {m b : Nat} {x y : RX} (hx : bC sl x = some (.i .i64 ((2 ^ m - 1 : Nat) : Int))) (hy : bC sl y = some (.i .i64 (b : Int))) (hm : m <= 5) (hb : b < 2 ^ m) (k : dG sl ob nx lg d K (.i .i64 ((2 ^ m - 1 - b : Nat) : Int))) : WSt (.bin d .andNot x y) ⟨sl, ob, nx, lg⟩ K := by
 obtain ⟨k2, k3⟩ := aT k
 have h32 : (2 : Nat) ^ m <= 2 ^ 5 := Nat.pow_le_pow_right (by omega) hm
 refine ⟨_, ?_, k3⟩
 show dO d .andNot x y sl ob nx lg = _
 unfold dO
 rw [hx, hy]
 have hs : Dm .i64 ((2 ^ m - 1 : Nat) : Int) ((b : Nat) : Int) = ((2 ^ m - 1 - b : Nat) : Int) := by
  have h1 : Dm .i64 ((2 ^ m - 1 : Nat) : Int) ((b : Nat) : Int) = .ofNat (Nat.land (2 ^ m - 1) (Nat.sub (bT .i64) b)) := qW nE (fun k m n => Nat.land m (Nat.sub (bT k) n)) .i64 (2 ^ m - 1) b (sV (by omega)) (sV (by omega))
  rw [h1, show bT .i64 = 18446744073709551615 from rfl, FG m b hm hb]
  rfl
 show fO .andNot (.i .i64 ((2 ^ m - 1 : Nat) : Int)) (.i .i64 ((b : Nat) : Int)) _ = _
 rw [DZ, hs, aV]
 have hw : IntKind.i64.wrap ((2 ^ m - 1 - b : Nat) : Int) = ((2 ^ m - 1 - b : Nat) : Int) := InR.i64 (by omega) (by omega)
 rw [hw]
 exact k2
def CM (A : List Nat) (m : Nat) (best : List Int) (b : Nat) : List Int := if (hU (fL b) best && eU A (2 ^ m - 1 - b)) = true then fL b else best
def oM (A : List Nat) (m n : Nat) : List Int := (List.range n).foldl (CM A m) (fL (2 ^ m - 1))
def Bx (A : List Nat) (m : Nat) : List Int := oM A m (2 ^ m)
theorem oL (A : List Nat) (m n : Nat) : oM A m (n + 1) = CM A m (oM A m n) n := by
 unfold oM
 rw [List.range_succ, List.foldl_append]
 rfl
theorem rF (A : List Nat) (m : Nat) : ∀ n, (oM A m n).length <= 10
 | 0 => lV _ _
 | n + 1 => by
   rw [oL]
   unfold CM
   split
   ·exact lV _ _
   ·exact rF A m n
theorem Io (en many : Int) : PureF Tryz.prog p144.ix [.i .i64 en, .i .i64 many] (.fn p157 [] [.pl [.i .i64 many] 0, .pl [.i .i64 en] 0]) := by
 refine PureF.run Ko (by simp) (by simp [aN, cG, Pu]) ?_; conv => whnf
 refine Qg ?_
 refine Fin.t (.inr rfl) rfl ?_
 exact .fn .nil (.cons (Frz.ptr rfl rfl (by simp) (by simp [aN, Pu])) (.cons (Frz.ptr rfl rfl (by simp) (by simp [aN, Pu])) .nil))
theorem CF : PureF Tryz.prog p142.ix [.ns] .ns := by
 refine PureF.run Gq (by simp) (by simp [aN, cG, Pu]) ?_; conv => whnf
 refine Qg ?_
 exact Fin.t (.inr rfl) rfl (.pu trivial)
def dQ (en : Nat) : Nat -> Nat -> List Int -> List (List Int)
 | 0, _, S => [S]
 | k + 1, next, S => (List.range' next (en - next)).flatMap fun i : Nat => dQ en k (i + 1) (S ++ [(i : Int)])
def dE (m : Nat) : List (List Int) := (List.range (m + 1)).flatMap fun many => dQ m many 0 []
def dK (S : List Int) : Nat := S.foldl (fun w i => w ||| 2 ^ i.toNat) 0
def pV : List (List Int) -> Bool
 | [] => true
 | a :: l => l.all (fun b => hU a b && !hU b a && !hU b b) && pV l
theorem wJ : ∀ m : _root_.Fin 6, pV (dE m.val) = true := by decide +kernel
theorem zC : ∀ m : _root_.Fin 6, (dE m.val).all (fun S => decide (dK S < 2 ^ m.val) && (fL (dK S) == S)) = true := by decide +kernel
theorem yM : ∀ m : _root_.Fin 6, (List.range (2 ^ m.val)).all (fun b => (dE m.val).contains (fL b) && (dK (fL b) == b)) = true := by decide +kernel
theorem mT {p : List Int -> Bool} : ∀ {l : List (List Int)}, pV l = true -> ∀ {S T : List Int}, l.find? p = some S -> T ∈ l -> p T = true -> T = S \/ (hU S T = true /\ hU T S = false)
 | [], _, S, T, h, _, _ => by cases h
 | a :: l, hs, S, T, h, hT, hp => by
   unfold pV at hs
   rw [Bool.and_eq_true, List.all_eq_true] at hs
   by_cases ha : p a = true
   ·rw [List.find?_cons_of_pos ha] at h
    cases h
    rcases List.mem_cons.1 hT with rfl | hT
    ·exact .inl rfl
    ·have := hs.1 T hT
     simp only [Bool.and_eq_true, Bool.not_eq_true'] at this
     exact .inr ⟨this.1.1, this.1.2⟩
   ·rw [List.find?_cons_of_neg ha] at h
    rcases List.mem_cons.1 hT with rfl | hT
    ·exact absurd hp ha
    ·exact mT hs.2 h hT hp
theorem qX : ∀ {A B C : List Int}, lC A B = true -> lC B C = true -> lC A C = true
 | [], [], _, h, _ => by cases h
 | [], b :: B, [], _, h => by cases h
 | [], b :: B, c :: C, _, _ => rfl
 | a :: A, [], _, h, _ => by cases h
 | a :: A, b :: B, [], _, h => by cases h
 | a :: A, b :: B, c :: C, h1, h2 => by
   unfold lC at h1 h2 ⊢
   by_cases e1 : a = b
   ·rw [if_pos e1] at h1
    by_cases e2 : b = c
    ·rw [if_pos e2] at h2
     rw [if_pos (e1.trans e2)]
     exact qX h1 h2
    ·rw [if_neg e2, decide_eq_true_iff] at h2
     rw [if_neg (by omega), decide_eq_true_iff]
     omega
   ·rw [if_neg e1, decide_eq_true_iff] at h1
    by_cases e2 : b = c
    ·rw [if_neg (by omega), decide_eq_true_iff]
     omega
    ·rw [if_neg e2, decide_eq_true_iff] at h2
     rw [if_neg (by omega), decide_eq_true_iff]
     omega
theorem wC : ∀ A : List Int, lC A A = false
 | [] => rfl
 | a :: A => by
   unfold lC
   rw [if_pos rfl]
   exact wC A
theorem BX (A : List Int) : hU A A = false := by
 unfold hU
 rw [wC, decide_eq_false (Nat.lt_irrefl _), Bool.and_false]
 rfl
theorem yS {A B C : List Int} (h1 : hU A B = true) (h2 : hU B C = true) : hU A C = true := by
 unfold hU at *
 rw [Bool.or_eq_true, Bool.and_eq_true, decide_eq_true_iff, decide_eq_true_iff] at *
 rcases h1 with h1 | ⟨h1, k1⟩
 ·rcases h2 with h2 | ⟨h2, k2⟩
  ·exact .inl (by omega)
  ·exact .inl (by omega)
 ·rcases h2 with h2 | ⟨h2, k2⟩
  ·exact .inl (by omega)
  ·exact .inr ⟨by omega, qX k1 k2⟩
theorem BI {A : List Nat} {m : Nat} (hm : m <= 5) (h0 : eU A 0 = true) : (dE m).find? (fun S => eU A (2 ^ m - 1 - dK S)) = some (Bx A m) := by
 have hp := Nat.one_le_two_pow (n := m)
 have inv : ∀ n, n <= 2 ^ m -> ∃ b0, b0 < 2 ^ m /\ oM A m n = fL b0 /\ eU A (2 ^ m - 1 - b0) = true /\ ∀ b, b < n -> eU A (2 ^ m - 1 - b) = true -> hU (fL b) (oM A m n) = false := fun n => by
  induction n with
  | zero => exact fun _ => ⟨2 ^ m - 1, by omega, rfl, by rw [Nat.sub_self]; exact h0, fun b hb => absurd hb (Nat.not_lt_zero _)⟩
  | succ n ih =>
    intro hn
    obtain ⟨b0, k1, k2, k3, k4⟩ := ih (by omega)
    rw [oL]
    unfold CM
    by_cases hc : (hU (fL n) (oM A m n) && eU A (2 ^ m - 1 - n)) = true
    ·rw [if_pos hc]
     rw [Bool.and_eq_true] at hc
     refine ⟨n, by omega, rfl, hc.2, fun b hb hcb => ?_⟩
     by_cases e : b = n
     ·subst e; exact BX _
     ·cases hs : hU (fL b) (fL n) with
      | false => rfl
      | true =>
        have := k4 b (by omega) hcb
        rw [yS hs hc.1] at this
        cases this
    ·rw [if_neg hc]
     refine ⟨b0, k1, k2, k3, fun b hb hcb => ?_⟩
     by_cases e : b = n
     ·subst e
      cases hs : hU (fL b) (oM A m b) with
      | false => rfl
      | true => exact absurd (by rw [hs, hcb]; rfl) hc
     ·exact k4 b (by omega) hcb
 obtain ⟨b0, k1, k2, k3, k4⟩ := inv (2 ^ m) (Nat.le_refl _)
 have k2 : Bx A m = fL b0 := k2
 have hw := List.all_eq_true.1 (yM ⟨m, by omega⟩) b0 (List.mem_range.2 k1)
 rw [Bool.and_eq_true] at hw
 have hmem : fL b0 ∈ dE m := List.contains_iff_mem.1 hw.1
 have hwb : dK (fL b0) = b0 := by simpa using hw.2
 have hP : eU A (2 ^ m - 1 - dK (fL b0)) = true := by rw [hwb]; exact k3
 cases hF : (dE m).find? (fun S => eU A (2 ^ m - 1 - dK S)) with
 | none => exact absurd hP (by have := List.find?_eq_none.1 hF _ hmem; exact this)
 | some S0 =>
   have hS0 := List.find?_some hF
   have hS0m := List.mem_of_find?_eq_some hF
   have hq := List.all_eq_true.1 (zC ⟨m, by omega⟩) S0 hS0m
   rw [Bool.and_eq_true, decide_eq_true_iff] at hq
   have hq2 : fL (dK S0) = S0 := by simpa using hq.2
   have hno := k4 (dK S0) hq.1 hS0
   rw [hq2] at hno
   rcases mT (p := fun S => eU A (2 ^ m - 1 - dK S)) (wJ ⟨m, by omega⟩) hF hmem hP with h | ⟨h, _⟩
   ·rw [k2, h]
   ·have hno : hU S0 (Bx A m) = false := hno
    rw [k2, h] at hno
    cases hno
theorem BG : ∀ m : _root_.Fin 6, (dE m.val).all (fun S => (List.range m.val).all fun k => (2 ^ m.val - 1 - dK S).testBit k == !pO S (k : Int)) = true := by decide +kernel
theorem En {b w m : Nat} (hw : w < 2 ^ m) : b &&& w = w ↔ ∀ k, k < m -> w.testBit k = true -> b.testBit k = true := by
 constructor
 ·intro h k _ hk
  have h2 : (b &&& w).testBit k = true := by rw [h]; exact hk
  rw [Nat.testBit_and, Bool.and_eq_true] at h2
  exact h2.1
 ·intro h
  refine Nat.eq_of_testBit_eq fun k => ?_
  rw [Nat.testBit_and]
  cases hk : w.testBit k with
  | false => rw [Bool.and_false]
  | true =>
    by_cases hm : k < m
    ·rw [h k hm hk]; rfl
    ·have : w.testBit k = false := Nat.testBit_lt_two_pow (Nat.lt_of_lt_of_le hw (Nat.pow_le_pow_right (by omega) (by omega)))
     rw [this] at hk
     cases hk
end Go.Ev
end
