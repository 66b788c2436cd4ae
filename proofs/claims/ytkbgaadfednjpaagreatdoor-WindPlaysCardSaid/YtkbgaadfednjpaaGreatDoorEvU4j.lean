import Derived.Test.YtkbgaadfednjpaaGreatDoorEvUFn
set_option linter.all false
set_option maxHeartbeats 8000000
noncomputable section
namespace Go.Ev
open Go.Proofs
set_option maxRecDepth 100000
theorem Bz {x1 x2 x3 x4 x5 y1 y2 y3 y4 y5 : Option C} : Beside (.o (.i .h)) (lK y1 y2 y3 y4 y5 none) (.n (.n (.n .e x4 .e) x2 .e) x1 (.n (.n .e x5 .e) x3 .e)) (lK y1 y2 y3 y4 y5 none) := by
 refine ⟨fun id c' hid hc => hc, fun id hle => ?_⟩
 cases id with
 | h => exact absurd hle (by decide)
 | o p => cases p with
   | h => exact absurd hle (by decide)
   | o q => cases q with
     | h => exact absurd hle (by decide)
     | o r => rfl
     | i r => rfl
   | i q => cases q with
     | h => rfl
     | o r => rfl
     | i r => rfl
 | i p => cases p with
   | h => exact absurd hle (by decide)
   | o q => cases q with
     | h => exact absurd hle (by decide)
     | o r => rfl
     | i r => rfl
   | i q => rfl
def Bm : Nat -> Int := fun _ => 0
def hrs (b : Bh) : Nat := (b.last + 1).toNat
def wK (b : Bh) : List (Nat -> Int) := sK b (hrs b) 0 Bm
section
variable {g : Pos} {first caps : List D} {b : Bh} {P : (Nat -> Int) -> Bool}
theorem Ab (h1 : aT first) (h2 : aT caps) (hg : ∀ c, PureF Tryz.prog g.ix (first ++ ([.ag (qU c)] ++ caps)) (.b (P c))) (V : VW b) (l1 : ∀ w ∈ b.winds, w.length <= 1000) (l2 : b.nts.length <= 1000) :
 CallOk Tryz.prog p147.ix [.yl (.i .h), .pl (eA b) 0] (Da g first caps b false) (.o (.o .h)) none (.tp []) (Da g first caps b ((wK b).any P)) (.o (.o .h)) none := by
 have hv := V.last
 have C := vM h1 h2 hg V l1 l2 (hrs b) 0 (by unfold hrs; omega) Bm
 have C : CallOk Tryz.prog p148.ix [.ag (qU Bm), .i .i64 0, .pl (eA b) 0, .pt (.o (.o .h)) 0 0, .pt (.i (.o .h)) 0 0] (DJ g first caps b false none) (.o (.i .h)) none (.b (!(wK b).any P)) (DJ g first caps b ((wK b).any P) none) (.o (.i .h)) none := C
 refine CallOk.run Ji (by simp) (Nat.le_refl _) ?_; conv => whnf
 refine Qg ?_
 refine WCall.fr C ?_ (lE h1 h2 _ (by decide)) ?_ Bz (Nat.le_refl _) (LgLe.refl _) (fun _ _ => trivial) ?_
 ·show T.le (lK _ _ _ _ _ _) _
  unfold lK
  (repeat' first | exact T.le_e _ | exact T.le_refl _ | refine T.le_sameS ?_ ?_ | refine T.le_none ?_ ?_ | refine T.le_ee ?_ ?_)
 ·simp [KpL, Kp, Pu, aT, Pos.nat, qU, aX]
 conv => whnf
 refine Qg ?_
 refine ⟨.inl rfl, ⟨_, rfl, .pu trivial⟩, Shr.kp ?_ (tF h1 h2 _ (by decide))⟩
 show T.le (CG _ _ _) (lK _ _ _ _ _ _)
 unfold CG lK
 (repeat' first | exact T.le_e _ | exact T.le_refl _ | refine T.le_sameS ?_ ?_ | refine T.le_none ?_ ?_ | refine T.le_ee ?_ ?_)
theorem EC (h1 : aT first) (h2 : aT caps) (hg : ∀ c, PureF Tryz.prog g.ix (first ++ ([.ag (qU c)] ++ caps)) (.b (P c))) (V : VW b) (l1 : ∀ w ∈ b.winds, w.length <= 1000) (l2 : b.nts.length <= 1000) :
 PureF Tryz.prog p118.ix [.fn p147 [] [.pl (eA b) 0], .fn g first caps] (.b ((wK b).any P)) := by
 have C := Ab h1 h2 hg V l1 l2
 refine PureF.run FT (by simp) (by simp [aT, dU, Pu, aX, h1, h2]) ?_; conv => whnf
 refine Qg ?_
 refine Rn.le (a := ⟨FM g first caps b, CG (some (Jh g first caps)) (some (Gk false)) none, .i .h, none⟩) ?_ ?_
 ·cases hP : (wK b).any P with
  | true =>
    rw [hP] at C
    refine Rn.rf rfl rfl C rfl (by simp) ?_; conv => whnf
    refine Qg ?_
    exact ⟨.inr rfl, _, rfl, .pu trivial⟩
  | false =>
    rw [hP] at C
    refine Rn.rf rfl rfl C rfl (by simp) ?_; conv => whnf
    refine Qg ?_
    exact ⟨.inr rfl, _, rfl, .pu trivial⟩
 ·refine X.le.mk ?_ ?_ (by simp [Pos.nat]) rfl rfl
  ·unfold FM
   exact Lw
  ·unfold CG
   exact Lw
end
theorem CU (b : Bh) : PureF Tryz.prog p119.ix [.ag (eA b)] (.fn p147 [] [.pl (eA b) 0]) := by
 refine PureF.run GD (by simp) (by simp [aT, Pu, aX]) ?_; conv => whnf
 refine Qg ?_
 refine Fin.t (.inr rfl) rfl ?_
 exact .fn .nil (.cons (Frz.ptr rfl rfl (by simp [eA]) (aX b)) .nil)
theorem DB (x y : List Int) (hx : x.length <= 1000) : PureF Tryz.prog p121.ix [.lst 1 (ints x), .lst 1 (ints y)] (.b (decide (x = y))) := by
 have e1 := aL x
 have e2 := aL y
 refine PureF.run Ga (by simp) (by simp [aT, dU, Pu, aB]) ?_; conv => whnf
 by_cases hl : x.length = y.length
 rotate_left
 ·rw [decide_eq_false fun e => hl (by rw [e])]
  repeat' first | ((first | refine Qw ?_ | refine Qd (fun h => ?_) (fun h => ?_)) <;> conv => whnf) | (refine WB.tt ?_; conv => whnf) | (refine WB.ff ?_; conv => whnf)
  exact Fin.b rfl rfl
 repeat' first | ((first | refine Qw ?_ | refine Qd (fun h => ?_) (fun h => ?_)) <;> conv => whnf) | (refine WB.tt ?_; conv => whnf) | (refine WB.ff ?_; conv => whnf)
 refine Rn.loop (fun j : Nat => ⟨(.n (.n .e (some (.lst 1 (ints y))) (.n .e none (.n .e (some (.i .i64 (j : Int))) .e))) (some (.lst 1 (ints x))) (.n (.n .e none (.n .e (some (.i .i64 (x.length : Int))) .e)) none .e)), .e, .h, none⟩) (fun j => j <= x.length /\ ∀ i, i < j -> x.getD i 0 = y.getD i 0) (fun j => x.length - j) 0 ?_ ⟨Nat.zero_le _, fun i hi => absurd hi (Nat.not_lt_zero _)⟩ ?_
 ·refine X.le.mk ?_ ?_ (Nat.le_refl _) rfl rfl
  all_goals (try rw [<- e1])
  all_goals (repeat' first | exact T.le_e _ | exact T.le_refl _ | refine T.le_some ?_ rfl ?_ | refine T.le_none ?_ ?_ | refine T.le_ee ?_ ?_)
 rintro j ⟨hj, ha⟩
 conv => whnf
 repeat' ((first | refine Qw ?_ | refine Qv ?_) <;> conv => whnf)
 refine WB.dec (fun h => ?_) (fun h => ?_) <;> conv => whnf
 ·have hlt : j < x.length := by omega
  repeat' ((first | refine Qw ?_ | refine Qv ?_) <;> conv => whnf)
  refine WB.ndec (fun h2 => ?_) (fun h2 => ?_) <;> conv => whnf
  ·repeat' ((first | refine Qw ?_ | refine Qv ?_) <;> conv => whnf)
   exact Fin.b rfl (decide_eq_false fun e => h2 (by rw [e])).symm
  ·repeat' ((first | refine Qw ?_ | refine Qv ?_) <;> conv => whnf)
   refine Again.to (j + 1) (by omega) ⟨by omega, fun i hi => ?_⟩ (Nat.le_refl _) ?_
   ·by_cases e : i = j
    ·subst e; exact h2
    ·exact ha i (by omega)
   ·(refine Shr.of ?_ ?_ rfl rfl) <;> (repeat' first | exact Rel.e | refine Rel.some ?_ ?_ ?_ | refine Rel.none ?_ ?_) <;> (try first | (show Fz _ _ _ _; first | exact Fz.pu trivial | (refine Fz.i ?_; first | rfl | omega) | (refine Fz.kpt ?_; (focus (show Pos.nat _ < Pos.nat _; simp [Pos.nat]; done))) | (refine Fz.ksl ?_; (focus (show Pos.nat _ < Pos.nat _; simp [Pos.nat]; done))) | (refine Fz.kmp ?_; (focus (show Pos.nat _ < Pos.nat _; simp [Pos.nat]; done))) | (refine Fz.pu ?_; simp [Cell.d, Pu, aT, dU, aB, aN, aG]; done) | (refine Fz.pu ?_; simp only [Cell.d]; assumption)) | (refine RO'.of ?_ (ShC.same ?_); (focus (show Pos.nat _ < Pos.nat _; simp [Pos.nat]; done)); (repeat' first | exact ShC.nl | refine ShC.cn ?_ ?_) <;> first | exact Fz.pu trivial | (refine Fz.i ?_; first | rfl | omega) | (refine Fz.kpt ?_; (focus (show Pos.nat _ < Pos.nat _; simp [Pos.nat]; done))) | (refine Fz.ksl ?_; (focus (show Pos.nat _ < Pos.nat _; simp [Pos.nat]; done))) | (refine Fz.kmp ?_; (focus (show Pos.nat _ < Pos.nat _; simp [Pos.nat]; done))) | (refine Fz.pu ?_; simp [Cell.d, Pu, aT, dU, aB, aN, aG]; done) | (refine Fz.pu ?_; simp only [Cell.d]; assumption)))
    all_goals (refine Fz.pu ?_; simp [Pu, aB])
 ·have hxy : x = y := List.ext_getElem hl fun i h1 h2 => by
   have := ha i (by omega)
   simpa [List.getD, h1, h2] using this
  rw [decide_eq_true hxy]
  repeat' ((first | refine Qw ?_ | refine Qv ?_) <;> conv => whnf)
  exact Fin.b rfl rfl
def Eh (c : Nat -> Int) : List Int := [c 0, c 1, c 2, c 3, c 4]
theorem WCall.borrow1 {P : Program} {f : Nat} {ds ds' : List D} {v : D} (h : PureF P f ds' v) (id : Pos) (c : C) {sl : T D} {ob : T C} {nx : Pos} {lg lg2 : Option (T Bool)} {d : Option Pos} {K : X -> Prop} (hz : FzL (fun _ => False) (T.set id c .e) ds ds') (hv : fU v) (hid : ob.get id = some c) (hlg2 : LJ lg id = lg2) (k : kP sl ob nx lg2 d K v) : WCall P f ds d ⟨sl, ob, nx, lg⟩ K := by
 subst hlg2
 have hone : (T.set id c .e).get id = some c := T.get_set_same _ _ _
 have C := PureF.borrowL h (ob := ob) (ob1 := T.set id c .e) (ds := ds) hz (fun j c' hc => by
  by_cases e : j = id
  ·subst e; rw [hone] at hc; rw [<- hc]; exact hid
  ·rw [T.get_set_ne e _ _, T.get_e] at hc; cases hc) hv nx (EU lg id) (fun j c' hc => by
  by_cases e : j = id
  ·subst e; exact (HF lg j).tchd
  ·rw [T.get_set_ne e _ _, T.get_e] at hc; cases hc)
 cases d with
 | none => exact ⟨_, _, _, _, _, C, rfl, k⟩
 | some d =>
   obtain ⟨h1, h2⟩ := bF k
   exact ⟨_, _, _, _, _, C, h1, h2⟩
theorem WSt.slaH {sl : T D} {ob : T C} {nx : Pos} {K : X -> Prop} {lg lg2 : Option (T Bool)} {d id : Pos} {n z st h cur : Nat} {ro : Bool} {x xh : RX} {cs : List Cell} {ds : List D} (hx : bO sl x = some (.pt id 0 st)) (hob : ob.get id = some (.cells ro cs cur)) (hcs : cs = ds.map fun d => Cell.o d st) (hn : ds.length = n * z)
 (hhi : bO sl xh = some (.i .i64 (h : Int))) (h2 : h <= n) (h3 : 0 < n) (hz : 0 < z) (hl : (∀ k : Option (T Bool) -> Option X, gP lg id k = k lg2)) (k : eT sl ob nx lg2 d K (.sl id 0 h st z)) : WSt (.sla d n z x none (some xh) none) ⟨sl, ob, nx, lg⟩ K := by
 obtain ⟨k2, k3⟩ := bF k
 refine ⟨_, ?_, k3⟩
 show rG d n z x none (some xh) none sl ob nx lg = _
 unfold rG
 rw [hx]
 simp only [hob, tX, hhi]
 have hhi' : ((h : Nat) : Int) = Int.ofNat h := rfl
 have b1 : Nat.ble 0 h = true := Nat.ble_eq_true_of_le (Nat.zero_le _)
 have b2 : Nat.ble h n = true := Nat.ble_eq_true_of_le h2
 have b3 : Nat.blt 0 n = true := Nat.ble_eq_true_of_le h3
 have b4 : Nat.blt 0 z = true := Nat.ble_eq_true_of_le hz
 subst hcs
 have hlt : n * z - 1 < ds.length := by
  have : 1 * 1 <= n * z := Nat.mul_le_mul h3 hz
  omega
 have hc : nN (ds.map fun d => Cell.o d st) (Nat.pred (Nat.add 0 (Nat.mul n z))) = some (Cell.o (ds[n * z - 1]'hlt) st) := by
  rw [dQ, show Nat.pred (Nat.add 0 (Nat.mul n z)) = n * z - 1 by rw [show Nat.add 0 (Nat.mul n z) = n * z from Nat.zero_add _]; rfl]
  simp [hlt]
 have hk : ∀ {β : Type} (q : D -> Option β), nY st (Cell.o (ds[n * z - 1]'hlt) st) q = q (ds[n * z - 1]'hlt) := fun q => by
  show (bif Nat.ble st st then _ else none) = _
  rw [Nat.ble_eq_true_of_le (Nat.le_refl st)]; rfl
 simp only [b1, b2, b3, b4, Bool.and_self, cond_true, hc, hk, bG, hl]
 rw [show Nat.add 0 (Nat.mul 0 z) = 0 by rw [show Nat.mul 0 z = 0 from Nat.zero_mul z]]
 exact k2
theorem IC (b : Bh) (V : VW b) (l : List Int) (c : Nat -> Int) : PureF Tryz.prog p120.ix [.ag (qU c), .pl (eA b) 0, .pl [.lst 1 (ints l)] 0] (.b (decide ((Eh c).take (hrs b) = l))) := by
 have hv := V.last
 have cE := DB ((Eh c).take (hrs b)) l (by simp [Eh]; omega)
 have hP : aT (eA b) := aX b
 unfold hrs at *
 obtain ⟨last, rws, pls, rch, face, sun, winds, brk, nts⟩ := b
 have hv : 0 <= last /\ last <= 4 := hv
 have h5 : last = 0 \/ last = 1 \/ last = 2 \/ last = 3 \/ last = 4 := by omega
 clear V
 refine PureF.run Gl (by simp) (by simp [aT, dU, Pu, If, aB, hP]) ?_; conv => whnf
 rcases h5 with rfl | rfl | rfl | rfl | rfl
 ·repeat' ((first | refine Qw ?_ | refine Qv ?_) <;> conv => whnf)
  refine WSt.slaH (h := 1) (ds := qU c) rfl rfl rfl rfl rfl (by decide) (by decide) (by decide) (fun k => rfl) ?_; conv => whnf
  repeat' ((first | refine Qw ?_ | refine Qv ?_) <;> conv => whnf)
  refine WCall.borrow1 cE .h (Di c) (.cons ((jU (fun _ h => h) (n := 3) (by rfl)).1) (.cons (.pu (aB l)) .nil)) trivial (by rfl) (by rfl) ?_; conv => whnf
  repeat' ((first | refine Qw ?_ | refine Qv ?_) <;> conv => whnf)
  exact Fin.b rfl rfl
 ·repeat' ((first | refine Qw ?_ | refine Qv ?_) <;> conv => whnf)
  refine WSt.slaH (h := 2) (ds := qU c) rfl rfl rfl rfl rfl (by decide) (by decide) (by decide) (fun k => rfl) ?_; conv => whnf
  repeat' ((first | refine Qw ?_ | refine Qv ?_) <;> conv => whnf)
  refine WCall.borrow1 cE .h (Di c) (.cons ((jU (fun _ h => h) (n := 3) (by rfl)).1) (.cons (.pu (aB l)) .nil)) trivial (by rfl) (by rfl) ?_; conv => whnf
  repeat' ((first | refine Qw ?_ | refine Qv ?_) <;> conv => whnf)
  exact Fin.b rfl rfl
 ·repeat' ((first | refine Qw ?_ | refine Qv ?_) <;> conv => whnf)
  refine WSt.slaH (h := 3) (ds := qU c) rfl rfl rfl rfl rfl (by decide) (by decide) (by decide) (fun k => rfl) ?_; conv => whnf
  repeat' ((first | refine Qw ?_ | refine Qv ?_) <;> conv => whnf)
  refine WCall.borrow1 cE .h (Di c) (.cons ((jU (fun _ h => h) (n := 3) (by rfl)).1) (.cons (.pu (aB l)) .nil)) trivial (by rfl) (by rfl) ?_; conv => whnf
  repeat' ((first | refine Qw ?_ | refine Qv ?_) <;> conv => whnf)
  exact Fin.b rfl rfl
 ·repeat' ((first | refine Qw ?_ | refine Qv ?_) <;> conv => whnf)
  refine WSt.slaH (h := 4) (ds := qU c) rfl rfl rfl rfl rfl (by decide) (by decide) (by decide) (fun k => rfl) ?_; conv => whnf
  repeat' ((first | refine Qw ?_ | refine Qv ?_) <;> conv => whnf)
  refine WCall.borrow1 cE .h (Di c) (.cons ((jU (fun _ h => h) (n := 3) (by rfl)).1) (.cons (.pu (aB l)) .nil)) trivial (by rfl) (by rfl) ?_; conv => whnf
  repeat' ((first | refine Qw ?_ | refine Qv ?_) <;> conv => whnf)
  exact Fin.b rfl rfl
 ·repeat' ((first | refine Qw ?_ | refine Qv ?_) <;> conv => whnf)
  refine WSt.slaH (h := 5) (ds := qU c) rfl rfl rfl rfl rfl (by decide) (by decide) (by decide) (fun k => rfl) ?_; conv => whnf
  repeat' ((first | refine Qw ?_ | refine Qv ?_) <;> conv => whnf)
  refine WCall.borrow1 cE .h (Di c) (.cons ((jU (fun _ h => h) (n := 3) (by rfl)).1) (.cons (.pu (aB l)) .nil)) trivial (by rfl) (by rfl) ?_; conv => whnf
  repeat' ((first | refine Qw ?_ | refine Qv ?_) <;> conv => whnf)
  exact Fin.b rfl rfl
def uI (b : Bh) (l : List Int) : Bool := (wK b).any fun c => decide ((Eh c).take (hrs b) = l)
theorem nH (b : Bh) (V : VW b) (l : List Int) (l1 : ∀ w ∈ b.winds, w.length <= 1000) (l2 : b.nts.length <= 1000) : PureF Tryz.prog p83.ix [.ag (eA b), .lst 1 (ints l)] (.b (uI b l)) := by
 have c1 := CU b
 have c2 := EC (g := p120) (first := []) (caps := [.pl (eA b) 0, .pl [.lst 1 (ints l)] 0]) (P := fun c => decide ((Eh c).take (hrs b) = l)) trivial (by simp [aT, Pu, aX, aB]) (fun c => IC b V l c) V l1 l2
 refine PureF.run Lb (by simp) (by simp [aT, Pu, aX, aB]) ?_; conv => whnf
 repeat' ((first | refine Qw ?_ | refine Qf c1 ?_ | refine Qv ?_) <;> conv => whnf)
 refine WCall.borrow c2 (.cons (.pu ?_) (.cons (.fn .nil (.cons (Frz.ptr rfl rfl (by simp [eA]) (aX b)) (.cons (Frz.ptr (r := [.lst 1 (ints l)]) rfl rfl (by simp) (by simp [aT, Pu, aB])) .nil))) .nil)) trivial ?_
 ·simp [Pu, aT, aX]
 conv => whnf
 repeat' ((first | refine Qw ?_ | refine Qv ?_) <;> conv => whnf)
 exact Fin.b rfl rfl
theorem oN {b : Bh} : ∀ {m h : Nat} {c c' : Nat → Int}, c' ∈ sK b m h c ↔ (∀ i, h ≤ i → i < h + m → c' i ∈ nD b i) ∧ ∀ i, (i < h ∨ h + m ≤ i) → c' i = c i
  | 0, h, c, c' => by
    unfold sK
    rw [List.mem_singleton]
    constructor
    · rintro rfl; exact ⟨fun i h1 h2 => absurd h2 (by omega), fun _ _ => rfl⟩
    · rintro ⟨_, k⟩
      exact funext fun i => k i (by omega)
  | m + 1, h, c, c' => by
    unfold sK
    rw [List.mem_flatMap]
    constructor
    · rintro ⟨f, hf, hc⟩
      obtain ⟨k1, k2⟩ := oN.1 hc
      refine ⟨fun i h1 h2 => ?_, fun i hi => ?_⟩
      · by_cases e : i = h
        · subst e; rw [k2 i (by omega), sF]; exact hf
        · exact k1 i (by omega) (by omega)
      · rw [k2 i (by omega), tD _ _ (by omega)]
    · rintro ⟨k1, k2⟩
      refine ⟨c' h, k1 h (by omega) (by omega), oN.2 ⟨fun i h1 h2 => k1 i (by omega) (by omega), fun i hi => ?_⟩⟩
      by_cases e : i = h
      · subst e; rw [sF]
      · rw [tD _ _ e]; exact k2 i (by omega)
structure TruP (b : Bh) (l : List Int) : Prop where
  len : l.length = hrs b
  mem : ∀ i, i < hrs b → l.getD i 0 ∈ nD b i
theorem zJ (c : Nat → Int) {i : Nat} (h : i < 5) : (Eh c).getD i 0 = c i := by
  rcases vT h with rfl | rfl | rfl | rfl | rfl <;> rfl
theorem rW {l : List Int} {n i : Nat} (h : i < n) : (l.take n).getD i 0 = l.getD i 0 := by
  simp [List.getD, h]
theorem gE (l : List Int) {i : Nat} (h : i < l.length) : l[i] = l.getD i 0 := by simp [List.getD, h]
theorem mO {b : Bh} (V : VW b) {l : List Int} : uI b l = true ↔ TruP b l := by
  have hv := V.last
  have hn : hrs b ≤ 5 := by unfold hrs; omega
  unfold uI wK
  rw [List.any_eq_true]
  constructor
  · rintro ⟨c, hc, e⟩
    have e := of_decide_eq_true e
    subst e
    obtain ⟨k1, _⟩ := oN.1 hc
    refine ⟨by simp [Eh]; omega, fun i hi => ?_⟩
    rw [rW hi, zJ c (by omega)]
    exact k1 i (Nat.zero_le _) (by omega)
  · rintro ⟨h1, h2⟩
    refine ⟨fun i => if i < hrs b then l.getD i 0 else 0, oN.2 ⟨fun i _ hi => ?_, fun i hi => ?_⟩, decide_eq_true ?_⟩
    · have hi : i < hrs b := by omega
      show (if i < hrs b then l.getD i 0 else 0) ∈ _
      rw [if_pos hi]; exact h2 i hi
    · have hi : ¬ i < hrs b := by omega
      show (if i < hrs b then l.getD i 0 else 0) = 0
      rw [if_neg hi]
    · refine List.ext_getElem (by simp [Eh]; omega) fun i a1 a2 => ?_
      rw [gE _ a1, gE _ a2, rW (by omega), zJ _ (by omega), if_pos (by omega)]
theorem iC {b : Bh} {i : Nat} {f : Int} : f ∈ nD b i ↔ f ∈ b.winds.getD i default ∧ ∀ n ∈ b.nts, n.1 = (i : Int) → n.2 = f := by
  unfold nD
  rw [List.mem_filter, List.all_eq_true]
  constructor
  · rintro ⟨a, k⟩
    exact ⟨a, fun n hn e => by rcases of_decide_eq_true (k n hn) with h | h; exact absurd e h; exact h⟩
  · rintro ⟨a, k⟩
    exact ⟨a, fun n hn => decide_eq_true (by by_cases e : n.1 = (i : Int); exact .inr (k n hn e); exact .inl e)⟩
def mL (b : Bh) (t : List Int) : Bool := decide (t.length = b.winds.length) && (List.range t.length).all fun i => AZ (b.winds.getD i default) (t.getD i 0)
def At (b : Bh) (t : List Int) : Bool := mL b t && b.nts.all fun n => decide (t.getD n.1.toNat 0 = n.2)
theorem jT {l : List Int} {n : Int} : AZ l n = true ↔ n ∈ l := by
  unfold AZ
  rw [List.any_eq_true]
  constructor
  · rintro ⟨x, hx, e⟩; rw [← of_decide_eq_true e]; exact hx
  · intro h; exact ⟨n, h, decide_eq_true rfl⟩
theorem iX {b : Bh} {t : List Int} : mL b t = true ↔ t.length = b.winds.length ∧ ∀ i, i < b.winds.length → t.getD i 0 ∈ b.winds.getD i default := by
  unfold mL
  rw [Bool.and_eq_true, decide_eq_true_iff, List.all_eq_true]
  constructor
  · rintro ⟨a, k⟩
    exact ⟨a, fun i hi => jT.1 (k i (List.mem_range.2 (by omega)))⟩
  · rintro ⟨a, k⟩
    exact ⟨a, fun i hi => jT.2 (k i (by have := List.mem_range.1 hi; omega))⟩
theorem VW.hrs {b : Bh} (V : VW b) : Go.Ev.hrs b = b.winds.length := by
  have := V.last; have := V.winl
  unfold Go.Ev.hrs; omega
theorem vK {b : Bh} (V : VW b) {t : List Int} : At b t = true ↔ TruP b t := by
  unfold At
  rw [Bool.and_eq_true, iX, List.all_eq_true]
  have hh := V.hrs
  have hv := V.last
  constructor
  · rintro ⟨⟨a, k⟩, q⟩
    refine ⟨by omega, fun i hi => iC.2 ⟨k i (by omega), fun n hn e => ?_⟩⟩
    have := of_decide_eq_true (q n hn)
    rw [e] at this
    exact this.symm
  · rintro ⟨a, k⟩
    refine ⟨⟨by omega, fun i hi => (iC.1 (k i (by omega))).1⟩, fun n hn => decide_eq_true ?_⟩
    have hb := uK hv (List.all_eq_true.1 V.nts n hn)
    have hb2 := bC (by have := List.all_eq_true.1 V.nts n hn; unfold gA at this; rw [Bool.and_eq_true] at this; exact this.1)
    have hi : n.1.toNat < Go.Ev.hrs b := by unfold Go.Ev.hrs; omega
    exact ((iC.1 (k _ hi)).2 n hn (by omega)).symm
theorem Bs {b : Bh} (V : VW b) (l : List Int) : uI b l = At b l := by
  cases h : At b l with
  | true => exact (mO V).2 ((vK V).1 h)
  | false =>
    cases k : uI b l with
    | false => rfl
    | true => rw [(vK V).2 ((mO V).1 k)] at h; cases h
theorem qN (b : Bh) (t : List Int) (l1 : ∀ w ∈ b.winds, w.length ≤ 1000) (l3 : b.winds.length ≤ 1000) : PureF Tryz.prog p32.ix [.ag (eA b), .lst 1 (ints t)] (.b (mL b t)) := by
  have e1 := aK cJ b.winds
  have e2 := aL t
  refine PureF.run LI (by simp) (by simp [aT, Pu, aX, aB]) ?_; conv => whnf
  by_cases hl : t.length = b.winds.length
  rotate_left
  · have hr : mL b t = false := by
      cases h : mL b t with
      | false => rfl
      | true => exact absurd (iX.1 h).1 hl
    rw [hr]
    repeat' first | ((first | with_reducible apply WB.tt | with_reducible apply WB.ff | refine Rn.seq ?_ | refine Rn.reg ?_ | refine Rn.drw ?_ | refine Rn.blk ?_ | refine Rn.skip ?_ | refine Rn.ret ?_ | refine Rn.exit ?_ | refine Rn.cond rfl ?_ | refine And.intro (InR.i64 (by omega) (by omega)) ?_ | refine And.intro (show _ ≠ (0 : Int) by omega) ?_ | refine WIx.intsN (by omega) ?_ | refine WIx.rowsN (by omega) ?_ | with_reducible refine WB.decT (by first | with_reducible rfl | assumption | omega | exact ⟨rfl, rfl⟩) ?_ | with_reducible refine WB.decF (by first | assumption | omega) ?_ | with_reducible refine WB.ndT (by first | with_reducible rfl | assumption | omega | exact ⟨rfl, rfl⟩) ?_ | with_reducible refine WB.ndF (by first | assumption | omega) ?_ | with_reducible refine WB.nt ?_ | with_reducible refine WB.nf ?_ | with_reducible refine WB.dec (fun h => ?_) (fun h => ?_) | with_reducible refine WB.ndec (fun h => ?_) (fun h => ?_) | refine WB.mk (fun h => ?_) (fun h => ?_)) <;> conv => whnf) | (refine WB.tt ?_; conv => whnf) | (refine WB.ff ?_; conv => whnf)
    exact Fin.b rfl rfl
  repeat' first | ((first | with_reducible apply WB.tt | with_reducible apply WB.ff | refine Rn.seq ?_ | refine Rn.reg ?_ | refine Rn.drw ?_ | refine Rn.blk ?_ | refine Rn.skip ?_ | refine Rn.ret ?_ | refine Rn.exit ?_ | refine Rn.cond rfl ?_ | refine And.intro (InR.i64 (by omega) (by omega)) ?_ | refine And.intro (show _ ≠ (0 : Int) by omega) ?_ | refine WIx.intsN (by omega) ?_ | refine WIx.rowsN (by omega) ?_ | with_reducible refine WB.decT (by first | with_reducible rfl | assumption | omega | exact ⟨rfl, rfl⟩) ?_ | with_reducible refine WB.decF (by first | assumption | omega) ?_ | with_reducible refine WB.ndT (by first | with_reducible rfl | assumption | omega | exact ⟨rfl, rfl⟩) ?_ | with_reducible refine WB.ndF (by first | assumption | omega) ?_ | with_reducible refine WB.nt ?_ | with_reducible refine WB.nf ?_ | with_reducible refine WB.dec (fun h => ?_) (fun h => ?_) | with_reducible refine WB.ndec (fun h => ?_) (fun h => ?_) | refine WB.mk (fun h => ?_) (fun h => ?_)) <;> conv => whnf) | (refine WB.tt ?_; conv => whnf) | (refine WB.ff ?_; conv => whnf)
  refine Rn.loop (fun j : Nat => ⟨(.n (.n .e (some (.lst 1 (ints t))) (.n .e (some (.i .i64 (j : Int))) .e)) none (.n .e (some (.pt .h 0 0)) .e)), .n .e (some (bX b)) .e, .o .h, none⟩) (fun j => j ≤ t.length ∧ ∀ i, i < j → t.getD i 0 ∈ b.winds.getD i default) (fun j => t.length - j) 0 ?_ ⟨Nat.zero_le _, fun i hi => absurd hi (Nat.not_lt_zero _)⟩ ?_
  · refine X.le.mk ?_ ?_ (Nat.le_refl _) rfl rfl
    all_goals (repeat' first | exact T.le_e _ | exact T.le_refl _ | refine T.le_some ?_ rfl ?_ | refine T.le_none ?_ ?_ | refine T.le_ee ?_ ?_)
  rintro j ⟨hj, ha⟩
  conv => whnf
  repeat' first | ((first | with_reducible apply WB.tt | with_reducible apply WB.ff | refine Rn.seq ?_ | refine Rn.reg ?_ | refine Rn.drw ?_ | refine Rn.blk ?_ | refine Rn.skip ?_ | refine Rn.ret ?_ | refine Rn.exit ?_ | refine Rn.cond rfl ?_ | refine And.intro (InR.i64 (by omega) (by omega)) ?_ | refine And.intro (show _ ≠ (0 : Int) by omega) ?_ | refine WIx.intsN (by omega) ?_ | refine WIx.rowsN (by omega) ?_ | with_reducible refine WB.decT (by first | with_reducible rfl | assumption | omega | exact ⟨rfl, rfl⟩) ?_ | with_reducible refine WB.decF (by first | assumption | omega) ?_ | with_reducible refine WB.ndT (by first | with_reducible rfl | assumption | omega | exact ⟨rfl, rfl⟩) ?_ | with_reducible refine WB.ndF (by first | assumption | omega) ?_ | with_reducible refine WB.nt ?_ | with_reducible refine WB.nf ?_) <;> conv => whnf) | (refine WB.tt ?_; conv => whnf) | (refine WB.ff ?_; conv => whnf)
  refine WB.dec (fun h => ?_) (fun h => ?_) <;> conv => whnf
  · have hlt : j < t.length := by omega
    have cH := FO (b.winds.getD j default) (t.getD j 0) (l1 _ (aR (d := (default : List Int)) (by omega)))
    cases hh : AZ (b.winds.getD j default) (t.getD j 0) with
    | false =>
      have hr : mL b t = false := by
        cases h : mL b t with
        | false => rfl
        | true =>
          have := jT.2 ((iX.1 h).2 j (by omega))
          rw [hh] at this; cases this
      rw [hr]
      rw [hh] at cH
      repeat' first | ((first | with_reducible apply WB.tt | with_reducible apply WB.ff | refine Rn.seq ?_ | refine Rn.reg ?_ | refine Rn.drw ?_ | refine Rn.blk ?_ | refine Rn.skip ?_ | refine Rn.ret ?_ | refine Rn.exit ?_ | refine Rn.cond rfl ?_ | refine And.intro (InR.i64 (by omega) (by omega)) ?_ | refine And.intro (show _ ≠ (0 : Int) by omega) ?_ | refine WIx.intsN (by omega) ?_ | refine WIx.rowsN (by omega) ?_ | refine WCall.pure (cH) ?_ | with_reducible refine WB.decT (by first | with_reducible rfl | assumption | omega | exact ⟨rfl, rfl⟩) ?_ | with_reducible refine WB.decF (by first | assumption | omega) ?_ | with_reducible refine WB.ndT (by first | with_reducible rfl | assumption | omega | exact ⟨rfl, rfl⟩) ?_ | with_reducible refine WB.ndF (by first | assumption | omega) ?_ | with_reducible refine WB.nt ?_ | with_reducible refine WB.nf ?_) <;> conv => whnf) | (refine WB.tt ?_; conv => whnf) | (refine WB.ff ?_; conv => whnf)
      exact Fin.b rfl rfl
    | true =>
      rw [hh] at cH
      repeat' first | ((first | with_reducible apply WB.tt | with_reducible apply WB.ff | refine Rn.seq ?_ | refine Rn.reg ?_ | refine Rn.drw ?_ | refine Rn.blk ?_ | refine Rn.skip ?_ | refine Rn.ret ?_ | refine Rn.exit ?_ | refine Rn.cond rfl ?_ | refine And.intro (InR.i64 (by omega) (by omega)) ?_ | refine And.intro (show _ ≠ (0 : Int) by omega) ?_ | refine WIx.intsN (by omega) ?_ | refine WIx.rowsN (by omega) ?_ | refine WCall.pure (cH) ?_ | with_reducible refine WB.decT (by first | with_reducible rfl | assumption | omega | exact ⟨rfl, rfl⟩) ?_ | with_reducible refine WB.decF (by first | assumption | omega) ?_ | with_reducible refine WB.ndT (by first | with_reducible rfl | assumption | omega | exact ⟨rfl, rfl⟩) ?_ | with_reducible refine WB.ndF (by first | assumption | omega) ?_ | with_reducible refine WB.nt ?_ | with_reducible refine WB.nf ?_) <;> conv => whnf) | (refine WB.tt ?_; conv => whnf) | (refine WB.ff ?_; conv => whnf)
      refine Again.to (j + 1) (by omega) ⟨by omega, fun i hi => ?_⟩ (Nat.le_refl _) ?_
      · by_cases e : i = j
        · subst e; exact jT.1 hh
        · exact ha i (by omega)
      · refine Shr.of ?_ ?_ rfl rfl
        · show Rel _ _ ((.n (.n .e (some (.lst 1 (ints t))) (.n .e (some (.i .i64 ((j + 1 : Nat) : Int))) .e)) none (.n .e (some (.pt .h 0 0)) .e)) : T D) _
          (repeat' first | exact Rel.e | refine Rel.some ?_ ?_ ?_ | refine Rel.none ?_ ?_ | refine Rel.ee ?_ ?_)
          all_goals show Fz _ _ _ _
          all_goals first | exact .pu trivial | exact .pu (aB _) | exact .kpt (show _ < 2 by simp [Pos.nat])
        · show Rel _ _ (.n .e (some (bX b)) .e : T C) _
          (repeat' first | exact Rel.e | refine Rel.some ?_ ?_ ?_ | refine Rel.none ?_ ?_ | refine Rel.ee ?_ ?_)
          all_goals exact RO'.of (show _ < 2 by simp [Pos.nat]) (aJ b)
  · have hr : mL b t = true := iX.2 ⟨hl, fun i hi => ha i (by omega)⟩
    rw [hr]
    repeat' first | ((first | with_reducible apply WB.tt | with_reducible apply WB.ff | refine Rn.seq ?_ | refine Rn.reg ?_ | refine Rn.drw ?_ | refine Rn.blk ?_ | refine Rn.skip ?_ | refine Rn.ret ?_ | refine Rn.exit ?_ | refine Rn.cond rfl ?_ | refine And.intro (InR.i64 (by omega) (by omega)) ?_ | refine And.intro (show _ ≠ (0 : Int) by omega) ?_ | refine WIx.intsN (by omega) ?_ | refine WIx.rowsN (by omega) ?_ | with_reducible refine WB.decT (by first | with_reducible rfl | assumption | omega | exact ⟨rfl, rfl⟩) ?_ | with_reducible refine WB.decF (by first | assumption | omega) ?_ | with_reducible refine WB.ndT (by first | with_reducible rfl | assumption | omega | exact ⟨rfl, rfl⟩) ?_ | with_reducible refine WB.ndF (by first | assumption | omega) ?_ | with_reducible refine WB.nt ?_ | with_reducible refine WB.nf ?_) <;> conv => whnf) | (refine WB.tt ?_; conv => whnf) | (refine WB.ff ?_; conv => whnf)
    exact Fin.b rfl rfl
theorem Aw (b : Bh) (V : VW b) (t : List Int) (l1 : ∀ w ∈ b.winds, w.length ≤ 1000) (l2 : b.nts.length ≤ 1000) : PureF Tryz.prog p30.ix [.ag (eA b), .lst 1 (ints t)] (.b (At b t)) := by
  have hv := V.last
  have hwl := V.winl
  have e1 := aK bL b.nts
  have cL := qN b t l1 (by omega)
  refine PureF.run Lx (by simp) (by simp [aT, Pu, aX, aB]) ?_; conv => whnf
  unfold At
  cases hL : mL b t with
  | false =>
    rw [hL] at cL
    repeat' first | ((first | with_reducible apply WB.tt | with_reducible apply WB.ff | refine Rn.seq ?_ | refine Rn.reg ?_ | refine Rn.drw ?_ | refine Rn.blk ?_ | refine Rn.skip ?_ | refine Rn.ret ?_ | refine Rn.exit ?_ | refine Rn.cond rfl ?_ | refine And.intro (InR.i64 (by omega) (by omega)) ?_ | refine And.intro (show _ ≠ (0 : Int) by omega) ?_ | refine WIx.intsN (by omega) ?_ | refine WIx.rowsN (by omega) ?_ | refine WCall.pure (cL) ?_ | with_reducible refine WB.decT (by first | with_reducible rfl | assumption | omega | exact ⟨rfl, rfl⟩) ?_ | with_reducible refine WB.decF (by first | assumption | omega) ?_ | with_reducible refine WB.ndT (by first | with_reducible rfl | assumption | omega | exact ⟨rfl, rfl⟩) ?_ | with_reducible refine WB.ndF (by first | assumption | omega) ?_ | with_reducible refine WB.nt ?_ | with_reducible refine WB.nf ?_) <;> conv => whnf) | (refine WB.tt ?_; conv => whnf) | (refine WB.ff ?_; conv => whnf)
    exact Fin.b rfl rfl
  | true =>
  rw [hL] at cL
  rw [Bool.true_and]
  obtain ⟨q1, q2⟩ := iX.1 hL
  have e2 := aL t
  repeat' first | ((first | with_reducible apply WB.tt | with_reducible apply WB.ff | refine Rn.seq ?_ | refine Rn.reg ?_ | refine Rn.drw ?_ | refine Rn.blk ?_ | refine Rn.skip ?_ | refine Rn.ret ?_ | refine Rn.exit ?_ | refine Rn.cond rfl ?_ | refine And.intro (InR.i64 (by omega) (by omega)) ?_ | refine And.intro (show _ ≠ (0 : Int) by omega) ?_ | refine WIx.intsN (by omega) ?_ | refine WIx.rowsN (by omega) ?_ | refine WCall.pure (cL) ?_ | with_reducible refine WB.decT (by first | with_reducible rfl | assumption | omega | exact ⟨rfl, rfl⟩) ?_ | with_reducible refine WB.decF (by first | assumption | omega) ?_ | with_reducible refine WB.ndT (by first | with_reducible rfl | assumption | omega | exact ⟨rfl, rfl⟩) ?_ | with_reducible refine WB.ndF (by first | assumption | omega) ?_ | with_reducible refine WB.nt ?_ | with_reducible refine WB.nf ?_) <;> conv => whnf) | (refine WB.tt ?_; conv => whnf) | (refine WB.ff ?_; conv => whnf)
  refine Rn.loop (fun j : Nat => ⟨(.n (.n .e (some (.lst 1 (ints t))) (.n .e (some (.i .i64 (j : Int))) .e)) none (.n .e (some (.pt .h 0 0)) .e)), .n .e (some (bX b)) .e, .o .h, none⟩) (fun j => j ≤ b.nts.length ∧ (b.nts.take j).all (fun n => decide (t.getD n.1.toNat 0 = n.2)) = true) (fun j => b.nts.length - j) 0 ?_ ⟨Nat.zero_le _, by simp⟩ ?_
  · refine X.le.mk ?_ ?_ (Nat.le_refl _) rfl rfl
    all_goals (repeat' first | exact T.le_e _ | exact T.le_refl _ | refine T.le_some ?_ rfl ?_ | refine T.le_none ?_ ?_ | refine T.le_ee ?_ ?_)
  rintro j ⟨hj, ha⟩
  conv => whnf
  repeat' first | ((first | with_reducible apply WB.tt | with_reducible apply WB.ff | refine Rn.seq ?_ | refine Rn.reg ?_ | refine Rn.drw ?_ | refine Rn.blk ?_ | refine Rn.skip ?_ | refine Rn.ret ?_ | refine Rn.exit ?_ | refine Rn.cond rfl ?_ | refine And.intro (InR.i64 (by omega) (by omega)) ?_ | refine And.intro (show _ ≠ (0 : Int) by omega) ?_ | refine WIx.intsN (by omega) ?_ | refine WIx.rowsN (by omega) ?_ | with_reducible refine WB.decT (by first | with_reducible rfl | assumption | omega | exact ⟨rfl, rfl⟩) ?_ | with_reducible refine WB.decF (by first | assumption | omega) ?_ | with_reducible refine WB.ndT (by first | with_reducible rfl | assumption | omega | exact ⟨rfl, rfl⟩) ?_ | with_reducible refine WB.ndF (by first | assumption | omega) ?_ | with_reducible refine WB.nt ?_ | with_reducible refine WB.nf ?_) <;> conv => whnf) | (refine WB.tt ?_; conv => whnf) | (refine WB.ff ?_; conv => whnf)
  refine WB.dec (fun h => ?_) (fun h => ?_) <;> conv => whnf
  · have hlt : j < b.nts.length := by omega
    have hnt := hF (d := default) V.nts hlt
    unfold gA at hnt
    rw [Bool.and_eq_true] at hnt
    have hb := bC hnt.1
    obtain ⟨i, hi⟩ := Int.eq_ofNat_of_zero_le hb.1
    repeat' first | ((first | with_reducible apply WB.tt | with_reducible apply WB.ff | refine Rn.seq ?_ | refine Rn.reg ?_ | refine Rn.drw ?_ | refine Rn.blk ?_ | refine Rn.skip ?_ | refine Rn.ret ?_ | refine Rn.exit ?_ | refine Rn.cond rfl ?_ | refine And.intro (InR.i64 (by omega) (by omega)) ?_ | refine And.intro (show _ ≠ (0 : Int) by omega) ?_ | refine WIx.intsN (by omega) ?_ | refine WIx.rowsN (by omega) ?_ | with_reducible refine WB.decT (by first | with_reducible rfl | assumption | omega | exact ⟨rfl, rfl⟩) ?_ | with_reducible refine WB.decF (by first | assumption | omega) ?_ | with_reducible refine WB.ndT (by first | with_reducible rfl | assumption | omega | exact ⟨rfl, rfl⟩) ?_ | with_reducible refine WB.ndF (by first | assumption | omega) ?_ | with_reducible refine WB.nt ?_ | with_reducible refine WB.nf ?_) <;> conv => whnf) | (refine WB.tt ?_; conv => whnf) | (refine WB.ff ?_; conv => whnf)
    refine WIx.intsE (j := i) hi (by omega) ?_; conv => whnf
    repeat' first | ((first | with_reducible apply WB.tt | with_reducible apply WB.ff | refine Rn.seq ?_ | refine Rn.reg ?_ | refine Rn.drw ?_ | refine Rn.blk ?_ | refine Rn.skip ?_ | refine Rn.ret ?_ | refine Rn.exit ?_ | refine Rn.cond rfl ?_ | refine And.intro (InR.i64 (by omega) (by omega)) ?_ | refine And.intro (show _ ≠ (0 : Int) by omega) ?_ | refine WIx.intsN (by omega) ?_ | refine WIx.rowsN (by omega) ?_ | with_reducible refine WB.decT (by first | with_reducible rfl | assumption | omega | exact ⟨rfl, rfl⟩) ?_ | with_reducible refine WB.decF (by first | assumption | omega) ?_ | with_reducible refine WB.ndT (by first | with_reducible rfl | assumption | omega | exact ⟨rfl, rfl⟩) ?_ | with_reducible refine WB.ndF (by first | assumption | omega) ?_ | with_reducible refine WB.nt ?_ | with_reducible refine WB.nf ?_) <;> conv => whnf) | (refine WB.tt ?_; conv => whnf) | (refine WB.ff ?_; conv => whnf)
    have hin : (b.nts.getD j default).1.toNat = i := by rw [hi]; rfl
    refine WB.ndec (fun h2 => ?_) (fun h2 => ?_) <;> conv => whnf
    · repeat' first | ((first | with_reducible apply WB.tt | with_reducible apply WB.ff | refine Rn.seq ?_ | refine Rn.reg ?_ | refine Rn.drw ?_ | refine Rn.blk ?_ | refine Rn.skip ?_ | refine Rn.ret ?_ | refine Rn.exit ?_ | refine Rn.cond rfl ?_ | refine And.intro (InR.i64 (by omega) (by omega)) ?_ | refine And.intro (show _ ≠ (0 : Int) by omega) ?_ | refine WIx.intsN (by omega) ?_ | refine WIx.rowsN (by omega) ?_ | with_reducible refine WB.decT (by first | with_reducible rfl | assumption | omega | exact ⟨rfl, rfl⟩) ?_ | with_reducible refine WB.decF (by first | assumption | omega) ?_ | with_reducible refine WB.ndT (by first | with_reducible rfl | assumption | omega | exact ⟨rfl, rfl⟩) ?_ | with_reducible refine WB.ndF (by first | assumption | omega) ?_ | with_reducible refine WB.nt ?_ | with_reducible refine WB.nf ?_) <;> conv => whnf) | (refine WB.tt ?_; conv => whnf) | (refine WB.ff ?_; conv => whnf)
      exact Fin.b rfl (eB (d := default) hlt (decide_eq_false (by rw [hin]; exact h2))).symm
    · repeat' first | ((first | with_reducible apply WB.tt | with_reducible apply WB.ff | refine Rn.seq ?_ | refine Rn.reg ?_ | refine Rn.drw ?_ | refine Rn.blk ?_ | refine Rn.skip ?_ | refine Rn.ret ?_ | refine Rn.exit ?_ | refine Rn.cond rfl ?_ | refine And.intro (InR.i64 (by omega) (by omega)) ?_ | refine And.intro (show _ ≠ (0 : Int) by omega) ?_ | refine WIx.intsN (by omega) ?_ | refine WIx.rowsN (by omega) ?_ | with_reducible refine WB.decT (by first | with_reducible rfl | assumption | omega | exact ⟨rfl, rfl⟩) ?_ | with_reducible refine WB.decF (by first | assumption | omega) ?_ | with_reducible refine WB.ndT (by first | with_reducible rfl | assumption | omega | exact ⟨rfl, rfl⟩) ?_ | with_reducible refine WB.ndF (by first | assumption | omega) ?_ | with_reducible refine WB.nt ?_ | with_reducible refine WB.nf ?_) <;> conv => whnf) | (refine WB.tt ?_; conv => whnf) | (refine WB.ff ?_; conv => whnf)
      refine Again.to (j + 1) (by omega) ⟨by omega, bI (d := default) hlt ha (decide_eq_true (by rw [hin]; exact h2))⟩ (Nat.le_refl _) ?_
      refine Shr.of ?_ ?_ rfl rfl
      · show Rel _ _ ((.n (.n .e (some (.lst 1 (ints t))) (.n .e (some (.i .i64 ((j + 1 : Nat) : Int))) .e)) none (.n .e (some (.pt .h 0 0)) .e)) : T D) _
        (repeat' first | exact Rel.e | refine Rel.some ?_ ?_ ?_ | refine Rel.none ?_ ?_ | refine Rel.ee ?_ ?_)
        all_goals show Fz _ _ _ _
        all_goals first | exact .pu trivial | exact .pu (aB _) | exact .kpt (show _ < 2 by simp [Pos.nat])
      · show Rel _ _ (.n .e (some (bX b)) .e : T C) _
        (repeat' first | exact Rel.e | refine Rel.some ?_ ?_ ?_ | refine Rel.none ?_ ?_ | refine Rel.ee ?_ ?_)
        all_goals exact RO'.of (show _ < 2 by simp [Pos.nat]) (aJ b)
  · repeat' first | ((first | with_reducible apply WB.tt | with_reducible apply WB.ff | refine Rn.seq ?_ | refine Rn.reg ?_ | refine Rn.drw ?_ | refine Rn.blk ?_ | refine Rn.skip ?_ | refine Rn.ret ?_ | refine Rn.exit ?_ | refine Rn.cond rfl ?_ | refine And.intro (InR.i64 (by omega) (by omega)) ?_ | refine And.intro (show _ ≠ (0 : Int) by omega) ?_ | refine WIx.intsN (by omega) ?_ | refine WIx.rowsN (by omega) ?_ | with_reducible refine WB.decT (by first | with_reducible rfl | assumption | omega | exact ⟨rfl, rfl⟩) ?_ | with_reducible refine WB.decF (by first | assumption | omega) ?_ | with_reducible refine WB.ndT (by first | with_reducible rfl | assumption | omega | exact ⟨rfl, rfl⟩) ?_ | with_reducible refine WB.ndF (by first | assumption | omega) ?_ | with_reducible refine WB.nt ?_ | with_reducible refine WB.nf ?_) <;> conv => whnf) | (refine WB.tt ?_; conv => whnf) | (refine WB.ff ?_; conv => whnf)
    exact Fin.b rfl (fA (by omega) ha).symm
end Go.Ev
end
