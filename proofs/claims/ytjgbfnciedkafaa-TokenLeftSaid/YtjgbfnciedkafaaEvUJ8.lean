import Derived.Test.YtjgbfnciedkafaaEvUJ3
import Derived.Test.YtjgbfnciedkafaaEvUFg
import Derived.Test.YtjgbfnciedkafaaEvUPl
import Derived.Test.YtjgbfnciedkafaaEvUTc
set_option linter.all false
namespace Go.Ev
open Go.Proofs
set_option maxRecDepth 100000
theorem eqL_nums : ∀ (xs ys : List Int), xs.length = ys.length → (∀ n ∈ xs, wfB .i64 n = true) → (∀ n ∈ ys, wfB .i64 n = true) → eqL (xs.map fun _ => .i .i64) (xs.map fun n => D.i .i64 n) (ys.map fun n => D.i .i64 n) = some (decide (xs = ys))
  | [], [], _, _, _ => by simp [eqL]
  | a :: xs, b :: ys, hl, h1, h2 => by
    have ih := eqL_nums xs ys (by simpa using hl) (fun n hn => h1 n (by simp [hn])) (fun n hn => h2 n (by simp [hn]))
    have hk : kEq .i64 .i64 = true := rfl
    have w1 := h1 a (by simp)
    have w2 := h2 b (by simp)
    simp only [List.map_cons, eqL, eqC, hk, w1, w2, Bool.and_self, cond_true, ih, Option.some.injEq]
    rw [eqB_eq]
    by_cases h : a = b
    · by_cases h' : xs = ys <;> simp [h, h']
    · simp [h]
  | [], _ :: _, h, _, _ => by simp at h
  | _ :: _, [], h, _, _ => by simp at h
theorem WSt.eqrN {sl : T D} {ob : T C} {nx : Pos} {K : X → Prop} {lg : Option (T Bool)} {d : Pos} {x y : RX} {neg : Bool} {ks : List LK} (xs ys : List Int) (h1 : opd sl x = some (.ag (xs.map fun n => D.i .i64 n))) (h2 : opd sl y = some (.ag (ys.map fun n => D.i .i64 n))) (hk : ks = xs.map fun _ => .i .i64) (hl : xs.length = ys.length) (w1 : ∀ n ∈ xs, wfB .i64 n = true) (w2 : ∀ n ∈ ys, wfB .i64 n = true) {r : Bool} (hr : (bif neg then !decide (xs = ys) else decide (xs = ys)) = r) (k : wOut sl ob nx lg d K (.b r)) :
    WSt (.eqr d neg ks x y) ⟨sl, ob, nx, lg⟩ K := by
  obtain ⟨k1, k2⟩ := wOut_ok k
  refine ⟨_, ?_, k2⟩
  show s_eqr _ _ _ x y sl ob nx lg = _
  unfold s_eqr
  rw [h1, h2]
  have e : eqR ks (.ag (xs.map fun n => D.i .i64 n)) (.ag (ys.map fun n => D.i .i64 n)) = some (decide (xs = ys)) := by
    rw [hk]
    exact eqL_nums xs ys hl w1 w2
  simp only [e, boolK_eq, hr]
  exact k1
theorem wf_hund {n : Int} (h : 0 ≤ n ∧ n ≤ 100) : wfB .i64 n = true := wf_small (by omega) (by omega)
def moX (n : Int) (h : Nat → Int) (box mix a b c : Int) : List D := [.i .i64 n, .i .i64 (h 0), .i .i64 (h 1), .i .i64 (h 2), .i .i64 (h 3), .i .i64 (h 4), .i .i64 (h 5), .i .i64 (h 6), .i .i64 (h 7), .i .i64 box, .i .i64 mix, .i .i64 a, .i .i64 b, .i .i64 c]
theorem mo_at {n : Int} {h : Nat → Int} {box mix x y z : Int} {c : Nat} (hc : c < 8) : ((moX n h box mix x y z).map fun d => Cell.o d 0)[1 + c * 1]? = some (.o (.i .i64 (h c)) 0) := by
  have : c = 0 ∨ c = 1 ∨ c = 2 ∨ c = 3 ∨ c = 4 ∨ c = 5 ∨ c = 6 ∨ c = 7 := by omega
  rcases this with rfl | rfl | rfl | rfl | rfl | rfl | rfl | rfl <;> rfl
theorem mo_set {n : Int} {h : Nat → Int} {box mix x y z : Int} {c : Nat} {v : Int} (hc : c < 8) : ((moX n h box mix x y z).map fun d => Cell.o d 0).set (1 + c * 1) (.o (.i .i64 v) 0) = (moX n (upT h c v) box mix x y z).map fun d => Cell.o d 0 := by
  have : c = 0 ∨ c = 1 ∨ c = 2 ∨ c = 3 ∨ c = 4 ∨ c = 5 ∨ c = 6 ∨ c = 7 := by omega
  rcases this with rfl | rfl | rfl | rfl | rfl | rfl | rfl | rfl <;> simp [moX, upT]
theorem wSt.stH {id : Pos} {sl : T D} {ob : T C} {nx : Pos} {lg : Option (T Bool)} {K : X → Prop} {cs : List Cell} {n box mix : Int} {h : Nat → Int} {a b d : Int} {c : Nat} {v : Int} {x y : RX} (hx : opd sl x = some (.pt id (1 + c * 1) 0)) (hy : opd sl y = some (.i .i64 v)) (ho : ob.get id = some (.cells false cs 1)) (hcs : cs = (moX n h box mix a b d).map fun d => Cell.o d 0) (hc : c < 8) (hk : lWK lg id fun lg => T.setK id (.cells false ((moX n (upT h c v) box mix a b d).map fun d => Cell.o d 0) 1) ob fun ob => K ⟨sl, ob, nx, lg⟩) : wSt (step (.st x y 1) sl ob nx lg) K := by
  subst hcs
  refine wSt.st1 hx hy ho rfl (mo_at hc) (Nat.le_refl _) ?_
  rw [mo_set hc]
  exact hk
theorem wSt.ldH {d id : Pos} {sl : T D} {ob : T C} {nx : Pos} {lg : Option (T Bool)} {K : X → Prop} {cs : List Cell} {n box mix : Int} {h : Nat → Int} {a b e : Int} {c : Nat} {x : RX} (hx : opd sl x = some (.pt id (1 + c * 1) 0)) (ho : ob.get id = some (.cells false cs 1)) (hcs : cs = (moX n h box mix a b e).map fun d => Cell.o d 0) (hc : c < 8) (hk : lRK lg id fun lg => wOut sl ob nx lg d K (.i .i64 (h c))) : wSt (step (.ld1 d x) sl ob nx lg) K := by
  subst hcs
  exact wSt.ld1 hx ho (mo_at hc) (Nat.le_refl _) hk
def h8L (h : Nat → Int) : List Int := [h 0, h 1, h 2, h 3, h 4, h 5, h 6, h 7]
theorem h8_at {h : Nat → Int} {c : Nat} (hc : c < 8) : (h8L h).getD c 0 = h c := by
  have : c = 0 ∨ c = 1 ∨ c = 2 ∨ c = 3 ∨ c = 4 ∨ c = 5 ∨ c = 6 ∨ c = 7 := by omega
  rcases this with rfl | rfl | rfl | rfl | rfl | rfl | rfl | rfl <;> rfl
theorem h8_wf {h : Nat → Int} (hh : ∀ q, 0 ≤ h q ∧ h q ≤ 100) : ∀ x ∈ h8L h, wfB .i64 x = true := fun x hx => by
  simp only [h8L, List.mem_cons, List.not_mem_nil, or_false] at hx
  rcases hx with rfl | rfl | rfl | rfl | rfl | rfl | rfl | rfl <;> exact wf_hund (hh _)
theorem upT_bd {h : Nat → Int} {c : Nat} {v : Int} (hh : ∀ q, 0 ≤ h q ∧ h q ≤ 100) (hv : 0 ≤ v ∧ v ≤ 100) : ∀ q, 0 ≤ upT h c v q ∧ upT h c v q ≤ 100 := fun q => by
  unfold upT
  split
  · exact hv
  · exact hh q
theorem WSt.eqrH {sl : T D} {ob : T C} {nx : Pos} {K : X → Prop} {lg : Option (T Bool)} {d : Pos} {x y : RX} {ks : List LK} (g h : Nat → Int) (h1 : opd sl x = some (.ag ((h8L g).map fun n => D.i .i64 n))) (h2 : opd sl y = some (.ag ((h8L h).map fun n => D.i .i64 n))) (hk : ks = (h8L g).map fun _ => .i .i64) (hg : ∀ q, 0 ≤ g q ∧ g q ≤ 100) (hh : ∀ q, 0 ≤ h q ∧ h q ≤ 100) {r : Bool} (hr : (!decide (h8L g = h8L h)) = r) (k : wOut sl ob nx lg d K (.b r)) :
    WSt (.eqr d true ks x y) ⟨sl, ob, nx, lg⟩ K := WSt.eqrN (h8L g) (h8L h) h1 h2 hk rfl (h8_wf hg) (h8_wf hh) hr k
theorem h8_ne {g h : Nat → Int} {c : Nat} (hc : c < 8) (e : g c ≠ h c) : (!decide (h8L g = h8L h)) = true := by
  rw [decide_eq_false (fun e' => e (by rw [← h8_at (h := g) hc, ← h8_at (h := h) hc, e']))]; rfl
set_option maxHeartbeats 1000000 in
theorem j_after (n coin box : Int) (ls : List Ln) (cs : List Ct) (m : Mo) (l : Ln) (h1 : 1 ≤ coin ∧ coin ≤ 99) (h2 : 0 ≤ m.n ∧ m.n ≤ 50) (h3 : -100000 ≤ m.box ∧ m.box ≤ 100000) (h4 : 0 ≤ m.mix ∧ m.mix ≤ 50) (hh : ∀ q, 0 ≤ m.h q ∧ m.h q ≤ 50) (hc : 0 ≤ l.c ∧ l.c ≤ 3) (ht : 0 ≤ l.t ∧ l.t ≤ 3) :
    PureF Try.prog p109.ix [.ag [.i .i64 n, .i .i64 coin, .i .i64 box, .lst 3 (rows lnD ls), .lst 3 (rows ctD cs), .any], .ag (moD m), .ag [.i .i64 l.k, .i .i64 l.c, .i .i64 l.t]] (.tp [.ag (moD (aftM coin m l).1), .b (aftM coin m l).2]) := by
  obtain ⟨k, c, t⟩ := l
  dsimp only at hc ht
  obtain ⟨c, rfl⟩ := Int.eq_ofNat_of_zero_le hc.1
  obtain ⟨t, rfl⟩ := Int.eq_ofNat_of_zero_le ht.1
  dsimp only
  have hh100 : ∀ q, 0 ≤ m.h q ∧ m.h q ≤ 100 := fun q => by have := hh q; omega
  have eU : aftM coin m ⟨k, (c : Int), (t : Int)⟩ = (if k = 1 ∧ m.h c = 0 ∧ m.h (4 + t) = 0 then (⟨m.n + 1, upT (upT m.h c (m.n + 1)) (4 + t) (m.n + 1), m.box + coin, m.mix, ⟨k, (c : Int), (t : Int)⟩⟩, true)
    else if k = 2 ∧ m.h c ≠ 0 ∧ m.h (4 + t) ≠ 0 then (⟨m.n + 1, upT (upT m.h c 0) (4 + t) 0, m.box - coin, if m.h c ≠ m.h (4 + t) then m.mix + 1 else m.mix, ⟨k, (c : Int), (t : Int)⟩⟩, true)
    else (⟨m.n + 1, m.h, m.box, m.mix, ⟨k, (c : Int), (t : Int)⟩⟩, false)) := rfl
  have eC : ¬ (k = 1 ∧ m.h c = 0 ∧ m.h (4 + t) = 0) → ¬ (k = 2 ∧ m.h c ≠ 0 ∧ m.h (4 + t) ≠ 0) → aftM coin m ⟨k, (c : Int), (t : Int)⟩ = (⟨m.n + 1, m.h, m.box, m.mix, ⟨k, (c : Int), (t : Int)⟩⟩, false) := fun a b => by rw [eU, if_neg a, if_neg b]
  have w1 := hh c
  have w2 := hh (4 + t)
  have hne : ∀ (g : Nat → Int) (v w : Int), upT (upT g c v) (4 + t) w c = v := fun g v w => by unfold upT; rw [if_neg (by omega), if_pos rfl]
  unfold moD
  refine PureF.run fn108 (by simp) (by simp [PuL, PuE, Pu, pu_ints, pu_ln, pu_ct]) ?_; conv => whnf
  repeat' first | ((first | with_reducible (first | apply Qt | apply Qu) | refine Qa rfl ?_ | refine Qk rfl ?_ | refine Qb ?_ | refine Qc ?_ | refine Qi ?_ | refine Qj ?_ | with_reducible (first | refine Qm ?_ | refine Qn ?_ | refine Qo ?_ | refine Qp ?_ | refine WB.nt ?_ | refine WB.nf ?_ | refine WB.dec (fun h => ?_) (fun h => ?_) | refine WB.ndec (fun h => ?_) (fun h => ?_)) | refine WB.mk (fun h => ?_) (fun h => ?_)) <;> conv => whnf)
  refine WSt.ixaN (m := c) rfl rfl (by omega) (by omega) ?_; conv => whnf
  repeat' first | ((first | with_reducible (first | apply Qt | apply Qu) | refine Qa rfl ?_ | refine Qk rfl ?_ | refine Qb ?_ | refine Qc ?_ | refine Qi ?_ | refine Qj ?_ | with_reducible (first | refine Qm ?_ | refine Qn ?_ | refine Qo ?_ | refine Qp ?_ | refine WB.nt ?_ | refine WB.nf ?_ | refine WB.dec (fun h => ?_) (fun h => ?_) | refine WB.ndec (fun h => ?_) (fun h => ?_)) | refine WB.mk (fun h => ?_) (fun h => ?_)) <;> conv => whnf)
  refine WSt.ixaN (m := 4 + t) rfl rfl (by omega) (by omega) ?_; conv => whnf
  by_cases k1 : k = 1
  · repeat' first | ((first | with_reducible (first | apply Qt | apply Qu) | refine Qa rfl ?_ | refine Qk rfl ?_ | refine Qb ?_ | refine Qc ?_ | refine Qi ?_ | refine Qj ?_ | with_reducible (first | refine Qm ?_ | refine Qn ?_ | refine Qo ?_ | refine Qp ?_ | refine WB.nt ?_ | refine WB.nf ?_ | refine WB.dec (fun h => ?_) (fun h => ?_) | refine WB.ndec (fun h => ?_) (fun h => ?_)) | refine WB.mk (fun h => ?_) (fun h => ?_)) <;> conv => whnf)
    refine wSt.ldH (n := m.n + 1) (h := m.h) (box := m.box) (mix := m.mix) (c := c) (by rfl) (by rfl) (by rfl) (by omega) ?_; conv => whnf
    by_cases a1 : m.h c = 0
    · repeat' first | ((first | with_reducible (first | apply Qt | apply Qu) | refine Qa rfl ?_ | refine Qk rfl ?_ | refine Qb ?_ | refine Qc ?_ | refine Qi ?_ | refine Qj ?_ | with_reducible (first | refine Qm ?_ | refine Qn ?_ | refine Qo ?_ | refine Qp ?_ | refine WB.nt ?_ | refine WB.nf ?_ | refine WB.dec (fun h => ?_) (fun h => ?_) | refine WB.ndec (fun h => ?_) (fun h => ?_)) | refine WB.mk (fun h => ?_) (fun h => ?_)) <;> conv => whnf)
      refine wSt.ldH (n := m.n + 1) (h := m.h) (box := m.box) (mix := m.mix) (c := 4 + t) (by rfl) (by rfl) (by rfl) (by omega) ?_; conv => whnf
      by_cases a2 : m.h (4 + t) = 0
      · rw [eU, if_pos ⟨k1, a1, a2⟩]
        repeat' first | ((first | with_reducible (first | apply Qt | apply Qu) | refine Qa rfl ?_ | refine Qk rfl ?_ | refine Qb ?_ | refine Qc ?_ | refine Qi ?_ | refine Qj ?_ | with_reducible (first | refine Qm ?_ | refine Qn ?_ | refine Qo ?_ | refine Qp ?_ | refine WB.nt ?_ | refine WB.nf ?_ | refine WB.dec (fun h => ?_) (fun h => ?_) | refine WB.ndec (fun h => ?_) (fun h => ?_)) | refine WB.mk (fun h => ?_) (fun h => ?_)) <;> conv => whnf)
        refine wSt.stH (n := m.n + 1) (h := m.h) (box := m.box) (mix := m.mix) (c := c) (v := m.n + 1) (by rfl) (by rfl) (by rfl) (by rfl) (by omega) ?_; conv => whnf
        repeat' first | ((first | with_reducible (first | apply Qt | apply Qu) | refine Qa rfl ?_ | refine Qk rfl ?_ | refine Qb ?_ | refine Qc ?_ | refine Qi ?_ | refine Qj ?_ | with_reducible (first | refine Qm ?_ | refine Qn ?_ | refine Qo ?_ | refine Qp ?_ | refine WB.nt ?_ | refine WB.nf ?_ | refine WB.dec (fun h => ?_) (fun h => ?_) | refine WB.ndec (fun h => ?_) (fun h => ?_)) | refine WB.mk (fun h => ?_) (fun h => ?_)) <;> conv => whnf)
        refine wSt.stH (n := m.n + 1) (h := upT m.h c (m.n + 1)) (box := m.box) (mix := m.mix) (c := 4 + t) (v := m.n + 1) (by rfl) (by rfl) (by rfl) (by rfl) (by omega) ?_; conv => whnf
        repeat' first | ((first | with_reducible (first | apply Qt | apply Qu) | refine Qa rfl ?_ | refine Qk rfl ?_ | refine Qb ?_ | refine Qc ?_ | refine Qi ?_ | refine Qj ?_ | with_reducible (first | refine Qm ?_ | refine Qn ?_ | refine Qo ?_ | refine Qp ?_ | refine WB.nt ?_ | refine WB.nf ?_ | refine WB.dec (fun h => ?_) (fun h => ?_) | refine WB.ndec (fun h => ?_) (fun h => ?_)) | refine WB.mk (fun h => ?_) (fun h => ?_)) <;> conv => whnf)
        refine WSt.eqrH (upT (upT m.h c (m.n + 1)) (4 + t) (m.n + 1)) m.h (by rfl) (by rfl) (by rfl) (upT_bd (upT_bd hh100 (by omega)) (by omega)) hh100 (r := true) (h8_ne (c := c) (by omega) (by rw [hne]; omega)) ?_; conv => whnf
        repeat' first | ((first | with_reducible (first | apply Qt | apply Qu) | refine Qa rfl ?_ | refine Qk rfl ?_ | refine Qb ?_ | refine Qc ?_ | refine Qi ?_ | refine Qj ?_ | with_reducible (first | refine Qm ?_ | refine Qn ?_ | refine Qo ?_ | refine Qp ?_ | refine WB.nt ?_ | refine WB.nf ?_ | refine WB.dec (fun h => ?_) (fun h => ?_) | refine WB.ndec (fun h => ?_) (fun h => ?_)) | refine WB.mk (fun h => ?_) (fun h => ?_)) <;> conv => whnf)
        refine ⟨.inr rfl, _, rfl, ?_⟩
        refine .tp (.cons (.ag ?_) (.cons (.pu trivial) .nil))
        repeat' first | exact FzL.nil | refine FzL.cons ?_ ?_
        all_goals exact Fz.i rfl
      · rw [eC (fun h => a2 h.2.2) (fun h => by omega)]
        repeat' first | ((first | with_reducible (first | apply Qt | apply Qu) | refine Qa rfl ?_ | refine Qk rfl ?_ | refine Qb ?_ | refine Qc ?_ | refine Qi ?_ | refine Qj ?_ | with_reducible (first | refine Qm ?_ | refine Qn ?_ | refine Qo ?_ | refine Qp ?_ | refine WB.nt ?_ | refine WB.nf ?_ | refine WB.dec (fun h => ?_) (fun h => ?_) | refine WB.ndec (fun h => ?_) (fun h => ?_)) | refine WB.mk (fun h => ?_) (fun h => ?_)) <;> conv => whnf)
        refine WSt.eqrH (m.h) m.h (by rfl) (by rfl) (by rfl) hh100 hh100 (r := false) (by rw [decide_eq_true rfl]; rfl) ?_; conv => whnf
        repeat' first | ((first | with_reducible (first | apply Qt | apply Qu) | refine Qa rfl ?_ | refine Qk rfl ?_ | refine Qb ?_ | refine Qc ?_ | refine Qi ?_ | refine Qj ?_ | with_reducible (first | refine Qm ?_ | refine Qn ?_ | refine Qo ?_ | refine Qp ?_ | refine WB.nt ?_ | refine WB.nf ?_ | refine WB.dec (fun h => ?_) (fun h => ?_) | refine WB.ndec (fun h => ?_) (fun h => ?_)) | refine WB.mk (fun h => ?_) (fun h => ?_)) <;> conv => whnf)
        refine ⟨.inr rfl, _, rfl, ?_⟩
        refine .tp (.cons (.ag ?_) (.cons (.pu trivial) .nil))
        repeat' first | exact FzL.nil | refine FzL.cons ?_ ?_
        all_goals exact Fz.i rfl
    · rw [eC (fun h => a1 h.2.1) (fun h => by omega)]
      repeat' first | ((first | with_reducible (first | apply Qt | apply Qu) | refine Qa rfl ?_ | refine Qk rfl ?_ | refine Qb ?_ | refine Qc ?_ | refine Qi ?_ | refine Qj ?_ | with_reducible (first | refine Qm ?_ | refine Qn ?_ | refine Qo ?_ | refine Qp ?_ | refine WB.nt ?_ | refine WB.nf ?_ | refine WB.dec (fun h => ?_) (fun h => ?_) | refine WB.ndec (fun h => ?_) (fun h => ?_)) | refine WB.mk (fun h => ?_) (fun h => ?_)) <;> conv => whnf)
      refine WSt.eqrH (m.h) m.h (by rfl) (by rfl) (by rfl) hh100 hh100 (r := false) (by rw [decide_eq_true rfl]; rfl) ?_; conv => whnf
      repeat' first | ((first | with_reducible (first | apply Qt | apply Qu) | refine Qa rfl ?_ | refine Qk rfl ?_ | refine Qb ?_ | refine Qc ?_ | refine Qi ?_ | refine Qj ?_ | with_reducible (first | refine Qm ?_ | refine Qn ?_ | refine Qo ?_ | refine Qp ?_ | refine WB.nt ?_ | refine WB.nf ?_ | refine WB.dec (fun h => ?_) (fun h => ?_) | refine WB.ndec (fun h => ?_) (fun h => ?_)) | refine WB.mk (fun h => ?_) (fun h => ?_)) <;> conv => whnf)
      refine ⟨.inr rfl, _, rfl, ?_⟩
      refine .tp (.cons (.ag ?_) (.cons (.pu trivial) .nil))
      repeat' first | exact FzL.nil | refine FzL.cons ?_ ?_
      all_goals exact Fz.i rfl
  by_cases k2 : k = 2
  · repeat' first | ((first | with_reducible (first | apply Qt | apply Qu) | refine Qa rfl ?_ | refine Qk rfl ?_ | refine Qb ?_ | refine Qc ?_ | refine Qi ?_ | refine Qj ?_ | with_reducible (first | refine Qm ?_ | refine Qn ?_ | refine Qo ?_ | refine Qp ?_ | refine WB.nt ?_ | refine WB.nf ?_ | refine WB.dec (fun h => ?_) (fun h => ?_) | refine WB.ndec (fun h => ?_) (fun h => ?_)) | refine WB.mk (fun h => ?_) (fun h => ?_)) <;> conv => whnf)
    refine wSt.ldH (n := m.n + 1) (h := m.h) (box := m.box) (mix := m.mix) (c := c) (by rfl) (by rfl) (by rfl) (by omega) ?_; conv => whnf
    by_cases a1 : m.h c = 0
    · rw [eC (fun h => by omega) (fun h => h.2.1 a1)]
      repeat' first | ((first | with_reducible (first | apply Qt | apply Qu) | refine Qa rfl ?_ | refine Qk rfl ?_ | refine Qb ?_ | refine Qc ?_ | refine Qi ?_ | refine Qj ?_ | with_reducible (first | refine Qm ?_ | refine Qn ?_ | refine Qo ?_ | refine Qp ?_ | refine WB.nt ?_ | refine WB.nf ?_ | refine WB.dec (fun h => ?_) (fun h => ?_) | refine WB.ndec (fun h => ?_) (fun h => ?_)) | refine WB.mk (fun h => ?_) (fun h => ?_)) <;> conv => whnf)
      refine WSt.eqrH (m.h) m.h (by rfl) (by rfl) (by rfl) hh100 hh100 (r := false) (by rw [decide_eq_true rfl]; rfl) ?_; conv => whnf
      repeat' first | ((first | with_reducible (first | apply Qt | apply Qu) | refine Qa rfl ?_ | refine Qk rfl ?_ | refine Qb ?_ | refine Qc ?_ | refine Qi ?_ | refine Qj ?_ | with_reducible (first | refine Qm ?_ | refine Qn ?_ | refine Qo ?_ | refine Qp ?_ | refine WB.nt ?_ | refine WB.nf ?_ | refine WB.dec (fun h => ?_) (fun h => ?_) | refine WB.ndec (fun h => ?_) (fun h => ?_)) | refine WB.mk (fun h => ?_) (fun h => ?_)) <;> conv => whnf)
      refine ⟨.inr rfl, _, rfl, ?_⟩
      refine .tp (.cons (.ag ?_) (.cons (.pu trivial) .nil))
      repeat' first | exact FzL.nil | refine FzL.cons ?_ ?_
      all_goals exact Fz.i rfl
    · repeat' first | ((first | with_reducible (first | apply Qt | apply Qu) | refine Qa rfl ?_ | refine Qk rfl ?_ | refine Qb ?_ | refine Qc ?_ | refine Qi ?_ | refine Qj ?_ | with_reducible (first | refine Qm ?_ | refine Qn ?_ | refine Qo ?_ | refine Qp ?_ | refine WB.nt ?_ | refine WB.nf ?_ | refine WB.dec (fun h => ?_) (fun h => ?_) | refine WB.ndec (fun h => ?_) (fun h => ?_)) | refine WB.mk (fun h => ?_) (fun h => ?_)) <;> conv => whnf)
      refine wSt.ldH (n := m.n + 1) (h := m.h) (box := m.box) (mix := m.mix) (c := 4 + t) (by rfl) (by rfl) (by rfl) (by omega) ?_; conv => whnf
      by_cases a2 : m.h (4 + t) = 0
      · rw [eC (fun h => by omega) (fun h => h.2.2 a2)]
        repeat' first | ((first | with_reducible (first | apply Qt | apply Qu) | refine Qa rfl ?_ | refine Qk rfl ?_ | refine Qb ?_ | refine Qc ?_ | refine Qi ?_ | refine Qj ?_ | with_reducible (first | refine Qm ?_ | refine Qn ?_ | refine Qo ?_ | refine Qp ?_ | refine WB.nt ?_ | refine WB.nf ?_ | refine WB.dec (fun h => ?_) (fun h => ?_) | refine WB.ndec (fun h => ?_) (fun h => ?_)) | refine WB.mk (fun h => ?_) (fun h => ?_)) <;> conv => whnf)
        refine WSt.eqrH (m.h) m.h (by rfl) (by rfl) (by rfl) hh100 hh100 (r := false) (by rw [decide_eq_true rfl]; rfl) ?_; conv => whnf
        repeat' first | ((first | with_reducible (first | apply Qt | apply Qu) | refine Qa rfl ?_ | refine Qk rfl ?_ | refine Qb ?_ | refine Qc ?_ | refine Qi ?_ | refine Qj ?_ | with_reducible (first | refine Qm ?_ | refine Qn ?_ | refine Qo ?_ | refine Qp ?_ | refine WB.nt ?_ | refine WB.nf ?_ | refine WB.dec (fun h => ?_) (fun h => ?_) | refine WB.ndec (fun h => ?_) (fun h => ?_)) | refine WB.mk (fun h => ?_) (fun h => ?_)) <;> conv => whnf)
        refine ⟨.inr rfl, _, rfl, ?_⟩
        refine .tp (.cons (.ag ?_) (.cons (.pu trivial) .nil))
        repeat' first | exact FzL.nil | refine FzL.cons ?_ ?_
        all_goals exact Fz.i rfl
      · rw [eU, if_neg (fun h => by omega), if_pos ⟨k2, a1, a2⟩]
        repeat' first | ((first | with_reducible (first | apply Qt | apply Qu) | refine Qa rfl ?_ | refine Qk rfl ?_ | refine Qb ?_ | refine Qc ?_ | refine Qi ?_ | refine Qj ?_ | with_reducible (first | refine Qm ?_ | refine Qn ?_ | refine Qo ?_ | refine Qp ?_ | refine WB.nt ?_ | refine WB.nf ?_ | refine WB.dec (fun h => ?_) (fun h => ?_) | refine WB.ndec (fun h => ?_) (fun h => ?_)) | refine WB.mk (fun h => ?_) (fun h => ?_)) <;> conv => whnf)
        refine wSt.ldH (n := m.n + 1) (h := m.h) (box := m.box) (mix := m.mix) (c := c) (by rfl) (by rfl) (by rfl) (by omega) ?_; conv => whnf
        repeat' first | ((first | with_reducible (first | apply Qt | apply Qu) | refine Qa rfl ?_ | refine Qk rfl ?_ | refine Qb ?_ | refine Qc ?_ | refine Qi ?_ | refine Qj ?_ | with_reducible (first | refine Qm ?_ | refine Qn ?_ | refine Qo ?_ | refine Qp ?_ | refine WB.nt ?_ | refine WB.nf ?_ | refine WB.dec (fun h => ?_) (fun h => ?_) | refine WB.ndec (fun h => ?_) (fun h => ?_)) | refine WB.mk (fun h => ?_) (fun h => ?_)) <;> conv => whnf)
        refine wSt.ldH (n := m.n + 1) (h := m.h) (box := m.box) (mix := m.mix) (c := 4 + t) (by rfl) (by rfl) (by rfl) (by omega) ?_; conv => whnf
        by_cases E : m.h c = m.h (4 + t)
        · rw [if_neg (fun h => h E)]
          repeat' first | ((first | with_reducible (first | apply Qt | apply Qu) | refine Qa rfl ?_ | refine Qk rfl ?_ | refine Qb ?_ | refine Qc ?_ | refine Qi ?_ | refine Qj ?_ | with_reducible (first | refine Qm ?_ | refine Qn ?_ | refine Qo ?_ | refine Qp ?_ | refine WB.nt ?_ | refine WB.nf ?_ | refine WB.dec (fun h => ?_) (fun h => ?_) | refine WB.ndec (fun h => ?_) (fun h => ?_)) | refine WB.mk (fun h => ?_) (fun h => ?_)) <;> conv => whnf)
          refine wSt.stH (n := m.n + 1) (h := m.h) (box := m.box) (mix := m.mix) (c := c) (v := 0) (by rfl) (by rfl) (by rfl) (by rfl) (by omega) ?_; conv => whnf
          repeat' first | ((first | with_reducible (first | apply Qt | apply Qu) | refine Qa rfl ?_ | refine Qk rfl ?_ | refine Qb ?_ | refine Qc ?_ | refine Qi ?_ | refine Qj ?_ | with_reducible (first | refine Qm ?_ | refine Qn ?_ | refine Qo ?_ | refine Qp ?_ | refine WB.nt ?_ | refine WB.nf ?_ | refine WB.dec (fun h => ?_) (fun h => ?_) | refine WB.ndec (fun h => ?_) (fun h => ?_)) | refine WB.mk (fun h => ?_) (fun h => ?_)) <;> conv => whnf)
          refine wSt.stH (n := m.n + 1) (h := upT m.h c 0) (box := m.box) (mix := m.mix) (c := 4 + t) (v := 0) (by rfl) (by rfl) (by rfl) (by rfl) (by omega) ?_; conv => whnf
          repeat' first | ((first | with_reducible (first | apply Qt | apply Qu) | refine Qa rfl ?_ | refine Qk rfl ?_ | refine Qb ?_ | refine Qc ?_ | refine Qi ?_ | refine Qj ?_ | with_reducible (first | refine Qm ?_ | refine Qn ?_ | refine Qo ?_ | refine Qp ?_ | refine WB.nt ?_ | refine WB.nf ?_ | refine WB.dec (fun h => ?_) (fun h => ?_) | refine WB.ndec (fun h => ?_) (fun h => ?_)) | refine WB.mk (fun h => ?_) (fun h => ?_)) <;> conv => whnf)
          refine WSt.eqrH (upT (upT m.h c 0) (4 + t) 0) m.h (by rfl) (by rfl) (by rfl) (upT_bd (upT_bd hh100 (by omega)) (by omega)) hh100 (r := true) (h8_ne (c := c) (by omega) (by rw [hne]; omega)) ?_; conv => whnf
          repeat' first | ((first | with_reducible (first | apply Qt | apply Qu) | refine Qa rfl ?_ | refine Qk rfl ?_ | refine Qb ?_ | refine Qc ?_ | refine Qi ?_ | refine Qj ?_ | with_reducible (first | refine Qm ?_ | refine Qn ?_ | refine Qo ?_ | refine Qp ?_ | refine WB.nt ?_ | refine WB.nf ?_ | refine WB.dec (fun h => ?_) (fun h => ?_) | refine WB.ndec (fun h => ?_) (fun h => ?_)) | refine WB.mk (fun h => ?_) (fun h => ?_)) <;> conv => whnf)
          refine ⟨.inr rfl, _, rfl, ?_⟩
          refine .tp (.cons (.ag ?_) (.cons (.pu trivial) .nil))
          repeat' first | exact FzL.nil | refine FzL.cons ?_ ?_
          all_goals exact Fz.i rfl
        · rw [if_pos E]
          repeat' first | ((first | with_reducible (first | apply Qt | apply Qu) | refine Qa rfl ?_ | refine Qk rfl ?_ | refine Qb ?_ | refine Qc ?_ | refine Qi ?_ | refine Qj ?_ | with_reducible (first | refine Qm ?_ | refine Qn ?_ | refine Qo ?_ | refine Qp ?_ | refine WB.nt ?_ | refine WB.nf ?_ | refine WB.dec (fun h => ?_) (fun h => ?_) | refine WB.ndec (fun h => ?_) (fun h => ?_)) | refine WB.mk (fun h => ?_) (fun h => ?_)) <;> conv => whnf)
          refine wSt.stH (n := m.n + 1) (h := m.h) (box := m.box) (mix := m.mix + 1) (c := c) (v := 0) (by rfl) (by rfl) (by rfl) (by rfl) (by omega) ?_; conv => whnf
          repeat' first | ((first | with_reducible (first | apply Qt | apply Qu) | refine Qa rfl ?_ | refine Qk rfl ?_ | refine Qb ?_ | refine Qc ?_ | refine Qi ?_ | refine Qj ?_ | with_reducible (first | refine Qm ?_ | refine Qn ?_ | refine Qo ?_ | refine Qp ?_ | refine WB.nt ?_ | refine WB.nf ?_ | refine WB.dec (fun h => ?_) (fun h => ?_) | refine WB.ndec (fun h => ?_) (fun h => ?_)) | refine WB.mk (fun h => ?_) (fun h => ?_)) <;> conv => whnf)
          refine wSt.stH (n := m.n + 1) (h := upT m.h c 0) (box := m.box) (mix := m.mix + 1) (c := 4 + t) (v := 0) (by rfl) (by rfl) (by rfl) (by rfl) (by omega) ?_; conv => whnf
          repeat' first | ((first | with_reducible (first | apply Qt | apply Qu) | refine Qa rfl ?_ | refine Qk rfl ?_ | refine Qb ?_ | refine Qc ?_ | refine Qi ?_ | refine Qj ?_ | with_reducible (first | refine Qm ?_ | refine Qn ?_ | refine Qo ?_ | refine Qp ?_ | refine WB.nt ?_ | refine WB.nf ?_ | refine WB.dec (fun h => ?_) (fun h => ?_) | refine WB.ndec (fun h => ?_) (fun h => ?_)) | refine WB.mk (fun h => ?_) (fun h => ?_)) <;> conv => whnf)
          refine WSt.eqrH (upT (upT m.h c 0) (4 + t) 0) m.h (by rfl) (by rfl) (by rfl) (upT_bd (upT_bd hh100 (by omega)) (by omega)) hh100 (r := true) (h8_ne (c := c) (by omega) (by rw [hne]; omega)) ?_; conv => whnf
          repeat' first | ((first | with_reducible (first | apply Qt | apply Qu) | refine Qa rfl ?_ | refine Qk rfl ?_ | refine Qb ?_ | refine Qc ?_ | refine Qi ?_ | refine Qj ?_ | with_reducible (first | refine Qm ?_ | refine Qn ?_ | refine Qo ?_ | refine Qp ?_ | refine WB.nt ?_ | refine WB.nf ?_ | refine WB.dec (fun h => ?_) (fun h => ?_) | refine WB.ndec (fun h => ?_) (fun h => ?_)) | refine WB.mk (fun h => ?_) (fun h => ?_)) <;> conv => whnf)
          refine ⟨.inr rfl, _, rfl, ?_⟩
          refine .tp (.cons (.ag ?_) (.cons (.pu trivial) .nil))
          repeat' first | exact FzL.nil | refine FzL.cons ?_ ?_
          all_goals exact Fz.i rfl
  · rw [eC (fun h => k1 h.1) (fun h => k2 h.1)]
    repeat' first | ((first | with_reducible (first | apply Qt | apply Qu) | refine Qa rfl ?_ | refine Qk rfl ?_ | refine Qb ?_ | refine Qc ?_ | refine Qi ?_ | refine Qj ?_ | with_reducible (first | refine Qm ?_ | refine Qn ?_ | refine Qo ?_ | refine Qp ?_ | refine WB.nt ?_ | refine WB.nf ?_ | refine WB.dec (fun h => ?_) (fun h => ?_) | refine WB.ndec (fun h => ?_) (fun h => ?_)) | refine WB.mk (fun h => ?_) (fun h => ?_)) <;> conv => whnf)
    refine WSt.eqrH (m.h) m.h (by rfl) (by rfl) (by rfl) hh100 hh100 (r := false) (by rw [decide_eq_true rfl]; rfl) ?_; conv => whnf
    repeat' first | ((first | with_reducible (first | apply Qt | apply Qu) | refine Qa rfl ?_ | refine Qk rfl ?_ | refine Qb ?_ | refine Qc ?_ | refine Qi ?_ | refine Qj ?_ | with_reducible (first | refine Qm ?_ | refine Qn ?_ | refine Qo ?_ | refine Qp ?_ | refine WB.nt ?_ | refine WB.nf ?_ | refine WB.dec (fun h => ?_) (fun h => ?_) | refine WB.ndec (fun h => ?_) (fun h => ?_)) | refine WB.mk (fun h => ?_) (fun h => ?_)) <;> conv => whnf)
    refine ⟨.inr rfl, _, rfl, ?_⟩
    refine .tp (.cons (.ag ?_) (.cons (.pu trivial) .nil))
    repeat' first | exact FzL.nil | refine FzL.cons ?_ ?_
    all_goals exact Fz.i rfl
end Go.Ev
namespace Go.Ev
open Go.Proofs
set_option maxRecDepth 100000
def ln3 (l : Ln) : List D := [.i .i64 l.k, .i .i64 l.c, .i .i64 l.t]
def lnWf (l : Ln) : Prop := wfB .i64 l.k = true ∧ wfB .i64 l.c = true ∧ wfB .i64 l.t = true
theorem j_readings (n coin box : Int) (ls : List Ln) (cs : List Ct) (l : Ln) : PureF Try.prog p107.ix [.ag [.i .i64 n, .i .i64 coin, .i .i64 box, .lst 3 (rows lnD ls), .lst 3 (rows ctD cs), .any], .ag [.i .i64 l.k, .i .i64 l.c, .i .i64 l.t]] (.fn p135 [] [.pl (wk6 n coin box ls cs) 0, .pl (ln3 l) 0]) := by
  refine PureF.run fn106 (by simp) (by simp [PuL, PuE, Pu, pu_ints, pu_ln, pu_ct]) ?_; conv => whnf
  repeat' first | ((first | with_reducible (first | apply Qt | apply Qu) | refine Qa rfl ?_ | refine Qk rfl ?_ | refine Qb ?_ | refine Qc ?_ | refine Qi ?_ | refine Qj ?_) <;> conv => whnf)
  refine Fin.t (.inr rfl) rfl (.fn .nil (.cons (Frz.ptr rfl rfl (by simp [wk6]) (by simp [wk6, PuL, Pu, pu_ln, pu_ct])) (.cons (Frz.ptr rfl rfl (by simp [ln3]) (by simp [ln3, PuL, Pu])) .nil)))
end Go.Ev
namespace Go.Ev
open Go.Proofs
set_option maxRecDepth 100000
def rdB (n : Int) (l r : Ln) : Bool := decide (kLo l ≤ r.k ∧ r.k ≤ kHi l ∧ cLo l ≤ r.c ∧ r.c ≤ cHi n l ∧ tLo l ≤ r.t ∧ r.t ≤ tHi n l)
end Go.Ev