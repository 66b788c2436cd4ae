import Derived.Test.YtkbgaadfednjpaaGreatDoorEvULk
import Derived.Test.YtkbgaadfednjpaaGreatDoorEvUSq
import Derived.Test.YtkbgaadfednjpaaGreatDoorEvUUp
import Derived.Test.YtkbgaadfednjpaaGreatDoorEvU4b
import Derived.Test.YtkbgaadfednjpaaGreatDoorEvU4u
set_option linter.all false
set_option maxHeartbeats 8000000
noncomputable section
namespace Go.Ev
set_option maxRecDepth 100000
theorem xK : ∀ (xs ys : List Int), xs.length = ys.length → (∀ n ∈ xs, wX .i64 n = true) → (∀ n ∈ ys, wX .i64 n = true) → Du (xs.map fun _ => .i .i64) (xs.map fun n => D.i .i64 n) (ys.map fun n => D.i .i64 n) = some (decide (xs = ys))
  | [], [], _, _, _ => by simp [Du]
  | a :: xs, b :: ys, hl, h1, h2 => by
    have ih := xK xs ys (by simpa using hl) (fun n hn => h1 n (by simp [hn])) (fun n hn => h2 n (by simp [hn]))
    have hk : sX .i64 .i64 = true := rfl
    have w1 := h1 a (by simp)
    have w2 := h2 b (by simp)
    simp only [List.map_cons, Du, MR, hk, w1, w2, Bool.and_self, cond_true, ih, Option.some.injEq]
    rw [lD]
    by_cases h : a = b
    · by_cases h' : xs = ys <;> simp [h, h']
    · simp [h]
  | [], _ :: _, h, _, _ => by simp at h
  | _ :: _, [], h, _, _ => by simp at h
theorem WSt.eqrN {sl : T D} {ob : T C} {nx : Pos} {K : X → Prop} {lg : Option (T Bool)} {d : Pos} {x y : RX} {neg : Bool} {ks : List LK} (xs ys : List Int) (h1 : bX sl x = some (.ag (xs.map fun n => D.i .i64 n))) (h2 : bX sl y = some (.ag (ys.map fun n => D.i .i64 n))) (hk : ks = xs.map fun _ => .i .i64) (hl : xs.length = ys.length) (w1 : ∀ n ∈ xs, wX .i64 n = true) (w2 : ∀ n ∈ ys, wX .i64 n = true) {r : Bool} (hr : (bif neg then !decide (xs = ys) else decide (xs = ys)) = r) (k : fV sl ob nx lg d K (.b r)) :
    WSt (.eqr d neg ks x y) ⟨sl, ob, nx, lg⟩ K := by
  obtain ⟨k1, k2⟩ := bR k
  refine ⟨_, ?_, k2⟩
  show pV _ _ _ x y sl ob nx lg = _
  unfold pV
  rw [h1, h2]
  have e : Dn ks (.ag (xs.map fun n => D.i .i64 n)) (.ag (ys.map fun n => D.i .i64 n)) = some (decide (xs = ys)) := by
    rw [hk]
    exact xK xs ys hl w1 w2
  simp only [e, bS, hr]
  exact k1
open Go.Proofs
instance : Inhabited Hr := ⟨⟨0, 0, 0⟩⟩
set_option maxRecDepth 1000000
set_option maxRecDepth 100000
structure ThF (b : Bh) : Prop where
  l1 : b.face.length ≤ 1000
  l2 : b.sun.length ≤ 1000
  l3 : b.winds.length ≤ 1000
  l4 : b.brk.length ≤ 1000
  l5 : b.nts.length ≤ 1000
  l6 : ∀ w ∈ b.winds, w.length ≤ 1000
theorem II {b : Bh} (h : rG b = true) : ThF b := by
  unfold rG at h
  simp only [Bool.and_eq_true, decide_eq_true_iff] at h
  obtain ⟨a1, a2, a3, a4, a5, _⟩ := h
  obtain ⟨b1, b2⟩ := qU a3
  exact ⟨by omega, by omega, by omega, by omega, by omega, fun w hw => Nat.le_trans (b2 w hw) (by decide)⟩
theorem pQ {α : Type} {β : Type} (g : β → α → β) (b : β) {l : List α} {j : Nat} {d : α} (h : j < l.length) : (l.take (j + 1)).foldl g b = g ((l.take j).foldl g b) (l.getD j d) := by
  rw [fL (d := d) h, List.foldl_append]; rfl
theorem gD (a : Int) (L : List Int) (hL : L.length ≤ 100000) : PureF Tryz.prog p135.ix [.i .i64 a, .lst 1 (ints L)] (.i .i64 (L.foldl min a)) := by
  have e1 := aO L
  refine PureF.run Jq (by simp) (by simp [aR, Pu, aB]) ?_; conv => whnf
  repeat' first | ((first | refine Qz ?_) <;> conv => whnf)
  refine Rn.loop (fun j : Nat => ⟨(.n (.n (.n (.n .e (some (.lst 1 (ints L))) .e) none .e) none (.n (.n .e (some (.i .i64 (j : Int))) .e) none .e)) (some (.i .i64 ((L.take j).foldl min a))) (.n (.n (.n .e (some (.i .i64 ((ints L).length : Int))) .e) none .e) none .e)), .e, .h, none⟩) (fun j => j ≤ L.length) (fun j => L.length - j) 0 ?_ ?_ ?_
  · (first | (refine X.le.mk ?_ ?_ (Nat.le_refl _) rfl rfl) | skip) <;> (repeat' first | exact T.le_e _ | refine T.le_some ?_ ?_ ?_ | refine T.le_none ?_ ?_ | rfl)
  · omega
  intro j hj
  conv => whnf
  repeat' first | ((first | refine Qz ?_) <;> conv => whnf)
  refine WB.dec (fun h => ?_) (fun h => ?_) <;> conv => whnf
  · have hlt : j < L.length := by omega
    repeat' first | ((first | refine Qz ?_) <;> conv => whnf)
    refine Again.to (j + 1) (by omega) (by omega) (Nat.le_refl _) ?_
    (refine Shr.of ?_ ?_ rfl rfl) <;> (repeat' first | exact Rel.e | refine Rel.some ?_ ?_ ?_ | refine Rel.none ?_ ?_) <;> (try first | (show Fz _ _ _ _; first | exact Fz.pu trivial | (refine Fz.i ?_; first | rfl | omega) | (refine Fz.kpt ?_; (focus (show Pos.nat _ < Pos.nat _; simp [Pos.nat]; done))) | (refine Fz.ksl ?_; (focus (show Pos.nat _ < Pos.nat _; simp [Pos.nat]; done))) | (refine Fz.kmp ?_; (focus (show Pos.nat _ < Pos.nat _; simp [Pos.nat]; done))) | (refine Fz.pu ?_; simp [Cell.d, Pu, aR, dP, aB, aG, aF]; done) | (refine Fz.pu ?_; simp only [Cell.d]; assumption)) | (refine RO'.of ?_ (ShC.same ?_); (focus (show Pos.nat _ < Pos.nat _; simp [Pos.nat]; done)); (repeat' first | exact ShC.nl | refine ShC.cn ?_ ?_) <;> first | exact Fz.pu trivial | (refine Fz.i ?_; first | rfl | omega) | (refine Fz.kpt ?_; (focus (show Pos.nat _ < Pos.nat _; simp [Pos.nat]; done))) | (refine Fz.ksl ?_; (focus (show Pos.nat _ < Pos.nat _; simp [Pos.nat]; done))) | (refine Fz.kmp ?_; (focus (show Pos.nat _ < Pos.nat _; simp [Pos.nat]; done))) | (refine Fz.pu ?_; simp [Cell.d, Pu, aR, dP, aB, aG, aF]; done) | (refine Fz.pu ?_; simp only [Cell.d]; assumption)))
    all_goals (refine Fz.i ?_; exact (pQ min a hlt).symm)
  · repeat' first | ((first | refine Qz ?_) <;> conv => whnf)
    exact Fin.i rfl (by rw [List.take_of_length_le (by omega)])
def zL (f t : Int) : Int := min ((t - f + 4).tmod 4) ((f - t + 4).tmod 4)
theorem uA {n : Int} (h : 0 ≤ n ∧ n ≤ 3) : n = 0 ∨ n = 1 ∨ n = 2 ∨ n = 3 := by omega
theorem AA {f t : Int} (hf : 0 ≤ f ∧ f ≤ 3) (ht : 0 ≤ t ∧ t ≤ 3) : 0 ≤ zL f t ∧ zL f t ≤ 2 := by
  rcases uA hf with rfl | rfl | rfl | rfl <;> rcases uA ht with rfl | rfl | rfl | rfl <;> decide
theorem Aj (f t : Int) (hf : 0 ≤ f ∧ f ≤ 3) (ht : 0 ≤ t ∧ t ≤ 3) : PureF Tryz.prog p151.ix [.i .i64 f, .i .i64 t] (.i .i64 (zL f t)) := by
  refine PureF.run KC (by simp) (by simp [aR, Pu]) ?_; conv => whnf
  rcases uA hf with rfl | rfl | rfl | rfl <;> rcases uA ht with rfl | rfl | rfl | rfl
  · repeat' first | ((first | refine Qz ?_ | refine And.intro (InR.i64 (by decide) (by decide)) ?_ | refine Qy ?_) <;> conv => whnf) | (refine WB.tt ?_; conv => whnf) | (refine WB.ff ?_; conv => whnf)
    refine WCall.borrow (gD 0 [4] (by simp)) (.cons (.pu trivial) (.cons ?_ .nil)) trivial ?_
    · exact Frz.whole (cur := 1) (es := ints [4]) rfl rfl (bW _) rfl (aB _)
    conv => whnf
    repeat' first | ((first | refine Qz ?_ | refine Qy ?_) <;> conv => whnf) | (refine WB.tt ?_; conv => whnf) | (refine WB.ff ?_; conv => whnf)
    exact Fin.i rfl (by decide)
  · repeat' first | ((first | refine Qz ?_ | refine And.intro (InR.i64 (by decide) (by decide)) ?_ | refine Qy ?_) <;> conv => whnf) | (refine WB.tt ?_; conv => whnf) | (refine WB.ff ?_; conv => whnf)
    refine WCall.borrow (gD 1 [3] (by simp)) (.cons (.pu trivial) (.cons ?_ .nil)) trivial ?_
    · exact Frz.whole (cur := 1) (es := ints [3]) rfl rfl (bW _) rfl (aB _)
    conv => whnf
    repeat' first | ((first | refine Qz ?_ | refine Qy ?_) <;> conv => whnf) | (refine WB.tt ?_; conv => whnf) | (refine WB.ff ?_; conv => whnf)
    exact Fin.i rfl (by decide)
  · repeat' first | ((first | refine Qz ?_ | refine And.intro (InR.i64 (by decide) (by decide)) ?_ | refine Qy ?_) <;> conv => whnf) | (refine WB.tt ?_; conv => whnf) | (refine WB.ff ?_; conv => whnf)
    refine WCall.borrow (gD 2 [2] (by simp)) (.cons (.pu trivial) (.cons ?_ .nil)) trivial ?_
    · exact Frz.whole (cur := 1) (es := ints [2]) rfl rfl (bW _) rfl (aB _)
    conv => whnf
    repeat' first | ((first | refine Qz ?_ | refine Qy ?_) <;> conv => whnf) | (refine WB.tt ?_; conv => whnf) | (refine WB.ff ?_; conv => whnf)
    exact Fin.i rfl (by decide)
  · repeat' first | ((first | refine Qz ?_ | refine And.intro (InR.i64 (by decide) (by decide)) ?_ | refine Qy ?_) <;> conv => whnf) | (refine WB.tt ?_; conv => whnf) | (refine WB.ff ?_; conv => whnf)
    refine WCall.borrow (gD 3 [1] (by simp)) (.cons (.pu trivial) (.cons ?_ .nil)) trivial ?_
    · exact Frz.whole (cur := 1) (es := ints [1]) rfl rfl (bW _) rfl (aB _)
    conv => whnf
    repeat' first | ((first | refine Qz ?_ | refine Qy ?_) <;> conv => whnf) | (refine WB.tt ?_; conv => whnf) | (refine WB.ff ?_; conv => whnf)
    exact Fin.i rfl (by decide)
  · repeat' first | ((first | refine Qz ?_ | refine And.intro (InR.i64 (by decide) (by decide)) ?_ | refine Qy ?_) <;> conv => whnf) | (refine WB.tt ?_; conv => whnf) | (refine WB.ff ?_; conv => whnf)
    refine WCall.borrow (gD 3 [1] (by simp)) (.cons (.pu trivial) (.cons ?_ .nil)) trivial ?_
    · exact Frz.whole (cur := 1) (es := ints [1]) rfl rfl (bW _) rfl (aB _)
    conv => whnf
    repeat' first | ((first | refine Qz ?_ | refine Qy ?_) <;> conv => whnf) | (refine WB.tt ?_; conv => whnf) | (refine WB.ff ?_; conv => whnf)
    exact Fin.i rfl (by decide)
  · repeat' first | ((first | refine Qz ?_ | refine And.intro (InR.i64 (by decide) (by decide)) ?_ | refine Qy ?_) <;> conv => whnf) | (refine WB.tt ?_; conv => whnf) | (refine WB.ff ?_; conv => whnf)
    refine WCall.borrow (gD 0 [4] (by simp)) (.cons (.pu trivial) (.cons ?_ .nil)) trivial ?_
    · exact Frz.whole (cur := 1) (es := ints [4]) rfl rfl (bW _) rfl (aB _)
    conv => whnf
    repeat' first | ((first | refine Qz ?_ | refine Qy ?_) <;> conv => whnf) | (refine WB.tt ?_; conv => whnf) | (refine WB.ff ?_; conv => whnf)
    exact Fin.i rfl (by decide)
  · repeat' first | ((first | refine Qz ?_ | refine And.intro (InR.i64 (by decide) (by decide)) ?_ | refine Qy ?_) <;> conv => whnf) | (refine WB.tt ?_; conv => whnf) | (refine WB.ff ?_; conv => whnf)
    refine WCall.borrow (gD 1 [3] (by simp)) (.cons (.pu trivial) (.cons ?_ .nil)) trivial ?_
    · exact Frz.whole (cur := 1) (es := ints [3]) rfl rfl (bW _) rfl (aB _)
    conv => whnf
    repeat' first | ((first | refine Qz ?_ | refine Qy ?_) <;> conv => whnf) | (refine WB.tt ?_; conv => whnf) | (refine WB.ff ?_; conv => whnf)
    exact Fin.i rfl (by decide)
  · repeat' first | ((first | refine Qz ?_ | refine And.intro (InR.i64 (by decide) (by decide)) ?_ | refine Qy ?_) <;> conv => whnf) | (refine WB.tt ?_; conv => whnf) | (refine WB.ff ?_; conv => whnf)
    refine WCall.borrow (gD 2 [2] (by simp)) (.cons (.pu trivial) (.cons ?_ .nil)) trivial ?_
    · exact Frz.whole (cur := 1) (es := ints [2]) rfl rfl (bW _) rfl (aB _)
    conv => whnf
    repeat' first | ((first | refine Qz ?_ | refine Qy ?_) <;> conv => whnf) | (refine WB.tt ?_; conv => whnf) | (refine WB.ff ?_; conv => whnf)
    exact Fin.i rfl (by decide)
  · repeat' first | ((first | refine Qz ?_ | refine And.intro (InR.i64 (by decide) (by decide)) ?_ | refine Qy ?_) <;> conv => whnf) | (refine WB.tt ?_; conv => whnf) | (refine WB.ff ?_; conv => whnf)
    refine WCall.borrow (gD 2 [2] (by simp)) (.cons (.pu trivial) (.cons ?_ .nil)) trivial ?_
    · exact Frz.whole (cur := 1) (es := ints [2]) rfl rfl (bW _) rfl (aB _)
    conv => whnf
    repeat' first | ((first | refine Qz ?_ | refine Qy ?_) <;> conv => whnf) | (refine WB.tt ?_; conv => whnf) | (refine WB.ff ?_; conv => whnf)
    exact Fin.i rfl (by decide)
  · repeat' first | ((first | refine Qz ?_ | refine And.intro (InR.i64 (by decide) (by decide)) ?_ | refine Qy ?_) <;> conv => whnf) | (refine WB.tt ?_; conv => whnf) | (refine WB.ff ?_; conv => whnf)
    refine WCall.borrow (gD 3 [1] (by simp)) (.cons (.pu trivial) (.cons ?_ .nil)) trivial ?_
    · exact Frz.whole (cur := 1) (es := ints [1]) rfl rfl (bW _) rfl (aB _)
    conv => whnf
    repeat' first | ((first | refine Qz ?_ | refine Qy ?_) <;> conv => whnf) | (refine WB.tt ?_; conv => whnf) | (refine WB.ff ?_; conv => whnf)
    exact Fin.i rfl (by decide)
  · repeat' first | ((first | refine Qz ?_ | refine And.intro (InR.i64 (by decide) (by decide)) ?_ | refine Qy ?_) <;> conv => whnf) | (refine WB.tt ?_; conv => whnf) | (refine WB.ff ?_; conv => whnf)
    refine WCall.borrow (gD 0 [4] (by simp)) (.cons (.pu trivial) (.cons ?_ .nil)) trivial ?_
    · exact Frz.whole (cur := 1) (es := ints [4]) rfl rfl (bW _) rfl (aB _)
    conv => whnf
    repeat' first | ((first | refine Qz ?_ | refine Qy ?_) <;> conv => whnf) | (refine WB.tt ?_; conv => whnf) | (refine WB.ff ?_; conv => whnf)
    exact Fin.i rfl (by decide)
  · repeat' first | ((first | refine Qz ?_ | refine And.intro (InR.i64 (by decide) (by decide)) ?_ | refine Qy ?_) <;> conv => whnf) | (refine WB.tt ?_; conv => whnf) | (refine WB.ff ?_; conv => whnf)
    refine WCall.borrow (gD 1 [3] (by simp)) (.cons (.pu trivial) (.cons ?_ .nil)) trivial ?_
    · exact Frz.whole (cur := 1) (es := ints [3]) rfl rfl (bW _) rfl (aB _)
    conv => whnf
    repeat' first | ((first | refine Qz ?_ | refine Qy ?_) <;> conv => whnf) | (refine WB.tt ?_; conv => whnf) | (refine WB.ff ?_; conv => whnf)
    exact Fin.i rfl (by decide)
  · repeat' first | ((first | refine Qz ?_ | refine And.intro (InR.i64 (by decide) (by decide)) ?_ | refine Qy ?_) <;> conv => whnf) | (refine WB.tt ?_; conv => whnf) | (refine WB.ff ?_; conv => whnf)
    refine WCall.borrow (gD 1 [3] (by simp)) (.cons (.pu trivial) (.cons ?_ .nil)) trivial ?_
    · exact Frz.whole (cur := 1) (es := ints [3]) rfl rfl (bW _) rfl (aB _)
    conv => whnf
    repeat' first | ((first | refine Qz ?_ | refine Qy ?_) <;> conv => whnf) | (refine WB.tt ?_; conv => whnf) | (refine WB.ff ?_; conv => whnf)
    exact Fin.i rfl (by decide)
  · repeat' first | ((first | refine Qz ?_ | refine And.intro (InR.i64 (by decide) (by decide)) ?_ | refine Qy ?_) <;> conv => whnf) | (refine WB.tt ?_; conv => whnf) | (refine WB.ff ?_; conv => whnf)
    refine WCall.borrow (gD 2 [2] (by simp)) (.cons (.pu trivial) (.cons ?_ .nil)) trivial ?_
    · exact Frz.whole (cur := 1) (es := ints [2]) rfl rfl (bW _) rfl (aB _)
    conv => whnf
    repeat' first | ((first | refine Qz ?_ | refine Qy ?_) <;> conv => whnf) | (refine WB.tt ?_; conv => whnf) | (refine WB.ff ?_; conv => whnf)
    exact Fin.i rfl (by decide)
  · repeat' first | ((first | refine Qz ?_ | refine And.intro (InR.i64 (by decide) (by decide)) ?_ | refine Qy ?_) <;> conv => whnf) | (refine WB.tt ?_; conv => whnf) | (refine WB.ff ?_; conv => whnf)
    refine WCall.borrow (gD 3 [1] (by simp)) (.cons (.pu trivial) (.cons ?_ .nil)) trivial ?_
    · exact Frz.whole (cur := 1) (es := ints [1]) rfl rfl (bW _) rfl (aB _)
    conv => whnf
    repeat' first | ((first | refine Qz ?_ | refine Qy ?_) <;> conv => whnf) | (refine WB.tt ?_; conv => whnf) | (refine WB.ff ?_; conv => whnf)
    exact Fin.i rfl (by decide)
  · repeat' first | ((first | refine Qz ?_ | refine And.intro (InR.i64 (by decide) (by decide)) ?_ | refine Qy ?_) <;> conv => whnf) | (refine WB.tt ?_; conv => whnf) | (refine WB.ff ?_; conv => whnf)
    refine WCall.borrow (gD 0 [4] (by simp)) (.cons (.pu trivial) (.cons ?_ .nil)) trivial ?_
    · exact Frz.whole (cur := 1) (es := ints [4]) rfl rfl (bW _) rfl (aB _)
    conv => whnf
    repeat' first | ((first | refine Qz ?_ | refine Qy ?_) <;> conv => whnf) | (refine WB.tt ?_; conv => whnf) | (refine WB.ff ?_; conv => whnf)
    exact Fin.i rfl (by decide)
theorem zU (f t : Int) (hf : 0 ≤ f ∧ f ≤ 3) (ht : 0 ≤ t ∧ t ≤ 3) : PureF Tryz.prog p96.ix [.i .i64 f, .i .i64 t] (.i .i64 (zL f t)) := by
  refine PureF.run Nx (by simp) (by simp [aR, Pu]) ?_; conv => whnf
  rcases uA hf with rfl | rfl | rfl | rfl <;> rcases uA ht with rfl | rfl | rfl | rfl
  all_goals
    repeat' first | ((first | refine Qz ?_ | refine And.intro (InR.i64 (by decide) (by decide)) ?_ | refine Qy ?_) <;> conv => whnf) | (refine WB.tt ?_; conv => whnf) | (refine WB.ff ?_; conv => whnf)
    exact Fin.i rfl (by decide)
theorem CY (b : Bh) (V : VW b) (f t : Int) (hf : 0 ≤ f ∧ f ≤ 3) (ht : 0 ≤ t ∧ t ≤ 3) : PureF Tryz.prog p131.ix [.ag (dS b), .i .i64 f, .i .i64 t] (.i .i64 (b.pls * zL f t)) := by
  have q := V.pls
  have hb := AA hf ht
  have cQ := Aj f t hf ht
  refine PureF.run Jn (by simp) (by simp [aR, Pu, aQ]) ?_; conv => whnf
  generalize zL f t = k at *
  have h1 : 0 ≤ b.pls * k := Int.mul_nonneg (by omega) hb.1
  have h2 : b.pls * k ≤ 5 * 2 := Int.mul_le_mul q.2 hb.2 hb.1 (by omega)
  repeat' first | ((first | refine Qz ?_ | refine Qf (cQ) ?_ | refine Qy ?_) <;> conv => whnf) | (refine WB.tt ?_; conv => whnf) | (refine WB.ff ?_; conv => whnf)
  exact Fin.i rfl rfl
end Go.Ev
end
