import Derived.Test.YtjgbfnciedkafaaEvUJ6
import Derived.Test.YtjgbfnciedkafaaEvUJ1
import Derived.Test.YtjgbfnciedkafaaEvUIt
set_option linter.all false
set_option maxHeartbeats 8000000
noncomputable section
namespace Go.Ev
open Go.Proofs
set_option maxRecDepth 100000
theorem Cj : ∀ (xs ys : List Int), xs.length = ys.length -> (∀ n ∈ xs, sK .i64 n = true) -> (∀ n ∈ ys, sK .i64 n = true) -> FG (xs.map fun _ => .i .i64) (xs.map fun n => D.i .i64 n) (ys.map fun n => D.i .i64 n) = some (decide (xs = ys))
 | [], [], _, _, _ => by simp [FG]
 | a :: xs, b :: ys, hl, h1, h2 => by
   have ih := Cj xs ys (by simpa using hl) (fun n hn => h1 n (by simp [hn])) (fun n hn => h2 n (by simp [hn]))
   have hk : xH .i64 .i64 = true := rfl
   have w1 := h1 a (by simp)
   have w2 := h2 b (by simp)
   simp only [List.map_cons, FG, Rq, hk, w1, w2, Bool.and_self, cond_true, ih, Option.some.injEq]
   rw [kV]
   by_cases h : a = b
   ·by_cases h' : xs = ys <;> simp [h, h']
   ·simp [h]
 | [], _ :: _, h, _, _ => by simp at h
 | _ :: _, [], h, _, _ => by simp at h
theorem WSt.eqrN {sl : T D} {ob : T C} {nx : Pos} {K : X -> Prop} {lg : Option (T Bool)} {d : Pos} {x y : RX} {neg : Bool} {ks : List LK} (xs ys : List Int) (h1 : bE sl x = some (.ag (xs.map fun n => D.i .i64 n))) (h2 : bE sl y = some (.ag (ys.map fun n => D.i .i64 n))) (hk : ks = xs.map fun _ => .i .i64) (hl : xs.length = ys.length) (w1 : ∀ n ∈ xs, sK .i64 n = true) (w2 : ∀ n ∈ ys, sK .i64 n = true) {r : Bool} (hr : (bif neg then !decide (xs = ys) else decide (xs = ys)) = r) (k : dJ sl ob nx lg d K (.b r)) :
 WSt (.eqr d neg ks x y) ⟨sl, ob, nx, lg⟩ K := by
 obtain ⟨k1, k2⟩ := aV k
 refine ⟨_, ?_, k2⟩
 show tY _ _ _ x y sl ob nx lg = _
 unfold tY
 rw [h1, h2]
 have e : Bu ks (.ag (xs.map fun n => D.i .i64 n)) (.ag (ys.map fun n => D.i .i64 n)) = some (decide (xs = ys)) := by
  rw [hk]
  exact Cj xs ys hl w1 w2
 simp only [e, bZ, hr]
 exact k1
theorem Mx {n : Int} (h : 0 <= n /\ n <= 100) : sK .i64 n = true := cJ (by omega) (by omega)
def PP (n : Int) (h : Nat -> Int) (box mix a b c : Int) : List D := [.i .i64 n, .i .i64 (h 0), .i .i64 (h 1), .i .i64 (h 2), .i .i64 (h 3), .i .i64 (h 4), .i .i64 (h 5), .i .i64 (h 6), .i .i64 (h 7), .i .i64 box, .i .i64 mix, .i .i64 a, .i .i64 b, .i .i64 c]
theorem NL {n : Int} {h : Nat -> Int} {box mix x y z : Int} {c : Nat} (hc : c < 8) : ((PP n h box mix x y z).map fun d => Cell.o d 0)[1 + c * 1]? = some (.o (.i .i64 (h c)) 0) := by
 have : c = 0 \/ c = 1 \/ c = 2 \/ c = 3 \/ c = 4 \/ c = 5 \/ c = 6 \/ c = 7 := by omega
 rcases this with rfl | rfl | rfl | rfl | rfl | rfl | rfl | rfl <;> rfl
theorem Oo {n : Int} {h : Nat -> Int} {box mix x y z : Int} {c : Nat} {v : Int} (hc : c < 8) : ((PP n h box mix x y z).map fun d => Cell.o d 0).set (1 + c * 1) (.o (.i .i64 v) 0) = (PP n (pH h c v) box mix x y z).map fun d => Cell.o d 0 := by
 have : c = 0 \/ c = 1 \/ c = 2 \/ c = 3 \/ c = 4 \/ c = 5 \/ c = 6 \/ c = 7 := by omega
 rcases this with rfl | rfl | rfl | rfl | rfl | rfl | rfl | rfl <;> simp [PP, pH]
theorem wSt.stH {id : Pos} {sl : T D} {ob : T C} {nx : Pos} {lg : Option (T Bool)} {K : X -> Prop} {cs : List Cell} {n box mix : Int} {h : Nat -> Int} {a b d : Int} {c : Nat} {v : Int} {x y : RX} (hx : bE sl x = some (.pt id (1 + c * 1) 0)) (hy : bE sl y = some (.i .i64 v)) (ho : ob.get id = some (.cells false cs 1)) (hcs : cs = (PP n h box mix a b d).map fun d => Cell.o d 0) (hc : c < 8) (hk : Lk lg id fun lg => T.setK id (.cells false ((PP n (pH h c v) box mix a b d).map fun d => Cell.o d 0) 1) ob fun ob => K ⟨sl, ob, nx, lg⟩) : wSt (step (.st x y 1) sl ob nx lg) K := by
 subst hcs
 refine wSt.st1 hx hy ho rfl (NL hc) (Nat.le_refl _) ?_
 rw [Oo hc]
 exact hk
theorem wSt.ldH {d id : Pos} {sl : T D} {ob : T C} {nx : Pos} {lg : Option (T Bool)} {K : X -> Prop} {cs : List Cell} {n box mix : Int} {h : Nat -> Int} {a b e : Int} {c : Nat} {x : RX} (hx : bE sl x = some (.pt id (1 + c * 1) 0)) (ho : ob.get id = some (.cells false cs 1)) (hcs : cs = (PP n h box mix a b e).map fun d => Cell.o d 0) (hc : c < 8) (hk : Gy lg id fun lg => dJ sl ob nx lg d K (.i .i64 (h c))) : wSt (step (.ld1 d x) sl ob nx lg) K := by
 subst hcs
 exact wSt.ld1 hx ho (NL hc) (Nat.le_refl _) hk
def Hp (h : Nat -> Int) : List Int := [h 0, h 1, h 2, h 3, h 4, h 5, h 6, h 7]
theorem Nb {h : Nat -> Int} {c : Nat} (hc : c < 8) : (Hp h).getD c 0 = h c := by
 have : c = 0 \/ c = 1 \/ c = 2 \/ c = 3 \/ c = 4 \/ c = 5 \/ c = 6 \/ c = 7 := by omega
 rcases this with rfl | rfl | rfl | rfl | rfl | rfl | rfl | rfl <;> rfl
theorem Nq {h : Nat -> Int} (hh : ∀ q, 0 <= h q /\ h q <= 100) : ∀ x ∈ Hp h, sK .i64 x = true := fun x hx => by
 simp only [Hp, List.mem_cons, List.not_mem_nil, or_false] at hx
 rcases hx with rfl | rfl | rfl | rfl | rfl | rfl | rfl | rfl <;> exact Mx (hh _)
theorem sR {h : Nat -> Int} {c : Nat} {v : Int} (hh : ∀ q, 0 <= h q /\ h q <= 100) (hv : 0 <= v /\ v <= 100) : ∀ q, 0 <= pH h c v q /\ pH h c v q <= 100 := fun q => by
 unfold pH
 split
 ·exact hv
 ·exact hh q
theorem WSt.eqrH {sl : T D} {ob : T C} {nx : Pos} {K : X -> Prop} {lg : Option (T Bool)} {d : Pos} {x y : RX} {ks : List LK} (g h : Nat -> Int) (h1 : bE sl x = some (.ag ((Hp g).map fun n => D.i .i64 n))) (h2 : bE sl y = some (.ag ((Hp h).map fun n => D.i .i64 n))) (hk : ks = (Hp g).map fun _ => .i .i64) (hg : ∀ q, 0 <= g q /\ g q <= 100) (hh : ∀ q, 0 <= h q /\ h q <= 100) {r : Bool} (hr : (!decide (Hp g = Hp h)) = r) (k : dJ sl ob nx lg d K (.b r)) :
 WSt (.eqr d true ks x y) ⟨sl, ob, nx, lg⟩ K := WSt.eqrN (Hp g) (Hp h) h1 h2 hk rfl (Nq hg) (Nq hh) hr k
theorem Le {g h : Nat -> Int} {c : Nat} (hc : c < 8) (e : g c ≠ h c) : (!decide (Hp g = Hp h)) = true := by
 rw [decide_eq_false (fun e' => e (by rw [<- Nb (h := g) hc, <- Nb (h := h) hc, e']))]; rfl
theorem FF (n coin box : Int) (ls : List Ln) (cs : List Ct) (m : Mo) (l : Ln) (h1 : 1 <= coin /\ coin <= 99) (h2 : 0 <= m.n /\ m.n <= 50) (h3 : -100000 <= m.box /\ m.box <= 100000) (h4 : 0 <= m.mix /\ m.mix <= 50) (hh : ∀ q, 0 <= m.h q /\ m.h q <= 50) (hc : 0 <= l.c /\ l.c <= 3) (ht : 0 <= l.t /\ l.t <= 3) :
 PureF Try.prog p109.ix [.ag [.i .i64 n, .i .i64 coin, .i .i64 box, .lst 3 (aC aI ls), .lst 3 (aC cX cs), .any], .ag (dH m), .ag [.i .i64 l.k, .i .i64 l.c, .i .i64 l.t]] (.tp [.ag (dH (mK coin m l).1), .b (mK coin m l).2]) := by
 obtain ⟨k, c, t⟩ := l
 dsimp only at hc ht
 obtain ⟨c, rfl⟩ := Int.eq_ofNat_of_zero_le hc.1
 obtain ⟨t, rfl⟩ := Int.eq_ofNat_of_zero_le ht.1
 dsimp only
 have hh100 : ∀ q, 0 <= m.h q /\ m.h q <= 100 := fun q => by have := hh q; omega
 have eU : mK coin m ⟨k, (c : Int), (t : Int)⟩ = (if k = 1 /\ m.h c = 0 /\ m.h (4 + t) = 0 then (⟨m.n + 1, pH (pH m.h c (m.n + 1)) (4 + t) (m.n + 1), m.box + coin, m.mix, ⟨k, (c : Int), (t : Int)⟩⟩, true)
  else if k = 2 /\ m.h c ≠ 0 /\ m.h (4 + t) ≠ 0 then (⟨m.n + 1, pH (pH m.h c 0) (4 + t) 0, m.box - coin, if m.h c ≠ m.h (4 + t) then m.mix + 1 else m.mix, ⟨k, (c : Int), (t : Int)⟩⟩, true)
  else (⟨m.n + 1, m.h, m.box, m.mix, ⟨k, (c : Int), (t : Int)⟩⟩, false)) := rfl
 have eC : ¬ (k = 1 /\ m.h c = 0 /\ m.h (4 + t) = 0) -> ¬ (k = 2 /\ m.h c ≠ 0 /\ m.h (4 + t) ≠ 0) -> mK coin m ⟨k, (c : Int), (t : Int)⟩ = (⟨m.n + 1, m.h, m.box, m.mix, ⟨k, (c : Int), (t : Int)⟩⟩, false) := fun a b => by rw [eU, if_neg a, if_neg b]
 have w1 := hh c
 have w2 := hh (4 + t)
 have hne : ∀ (g : Nat -> Int) (v w : Int), pH (pH g c v) (4 + t) w c = v := fun g v w => by unfold pH; rw [if_neg (by omega), if_pos rfl]
 unfold dH
 refine PureF.run TB (by simp) (by simp [aO, dE, Pu, aH, aB, aE]) ?_; conv => whnf
 repeat' ((first | refine Qw ?_ | refine Qd (fun h => ?_) (fun h => ?_)) <;> conv => whnf)
 refine WSt.ixaN (m := c) rfl rfl (by omega) (by omega) ?_; conv => whnf
 repeat' ((first | refine Qw ?_ | refine Qd (fun h => ?_) (fun h => ?_)) <;> conv => whnf)
 refine WSt.ixaN (m := 4 + t) rfl rfl (by omega) (by omega) ?_; conv => whnf
 by_cases k1 : k = 1
 ·repeat' ((first | refine Qw ?_ | refine Qd (fun h => ?_) (fun h => ?_)) <;> conv => whnf)
  refine wSt.ldH (n := m.n + 1) (h := m.h) (box := m.box) (mix := m.mix) (c := c) (by rfl) (by rfl) (by rfl) (by omega) ?_; conv => whnf
  by_cases a1 : m.h c = 0
  ·repeat' ((first | refine Qw ?_ | refine Qd (fun h => ?_) (fun h => ?_)) <;> conv => whnf)
   refine wSt.ldH (n := m.n + 1) (h := m.h) (box := m.box) (mix := m.mix) (c := 4 + t) (by rfl) (by rfl) (by rfl) (by omega) ?_; conv => whnf
   by_cases a2 : m.h (4 + t) = 0
   ·rw [eU, if_pos ⟨k1, a1, a2⟩]
    repeat' ((first | refine Qw ?_ | refine Qd (fun h => ?_) (fun h => ?_)) <;> conv => whnf)
    refine wSt.stH (n := m.n + 1) (h := m.h) (box := m.box) (mix := m.mix) (c := c) (v := m.n + 1) (by rfl) (by rfl) (by rfl) (by rfl) (by omega) ?_; conv => whnf
    repeat' ((first | refine Qw ?_ | refine Qd (fun h => ?_) (fun h => ?_)) <;> conv => whnf)
    refine wSt.stH (n := m.n + 1) (h := pH m.h c (m.n + 1)) (box := m.box) (mix := m.mix) (c := 4 + t) (v := m.n + 1) (by rfl) (by rfl) (by rfl) (by rfl) (by omega) ?_; conv => whnf
    repeat' ((first | refine Qw ?_ | refine Qd (fun h => ?_) (fun h => ?_)) <;> conv => whnf)
    refine WSt.eqrH (pH (pH m.h c (m.n + 1)) (4 + t) (m.n + 1)) m.h (by rfl) (by rfl) (by rfl) (sR (sR hh100 (by omega)) (by omega)) hh100 (r := true) (Le (c := c) (by omega) (by rw [hne]; omega)) ?_; conv => whnf
    repeat' ((first | refine Qw ?_ | refine Qd (fun h => ?_) (fun h => ?_)) <;> conv => whnf)
    refine ⟨.inr rfl, _, rfl, ?_⟩
    refine .tp (.cons (.ag ?_) (.cons (.pu trivial) .nil))
    repeat' first | exact FzL.nil | refine FzL.cons ?_ ?_
    all_goals exact Fz.i rfl
   ·rw [eC (fun h => a2 h.2.2) (fun h => by omega)]
    repeat' ((first | refine Qw ?_ | refine Qd (fun h => ?_) (fun h => ?_)) <;> conv => whnf)
    refine WSt.eqrH (m.h) m.h (by rfl) (by rfl) (by rfl) hh100 hh100 (r := false) (by rw [decide_eq_true rfl]; rfl) ?_; conv => whnf
    repeat' ((first | refine Qw ?_ | refine Qd (fun h => ?_) (fun h => ?_)) <;> conv => whnf)
    refine ⟨.inr rfl, _, rfl, ?_⟩
    refine .tp (.cons (.ag ?_) (.cons (.pu trivial) .nil))
    repeat' first | exact FzL.nil | refine FzL.cons ?_ ?_
    all_goals exact Fz.i rfl
  ·rw [eC (fun h => a1 h.2.1) (fun h => by omega)]
   repeat' ((first | refine Qw ?_ | refine Qd (fun h => ?_) (fun h => ?_)) <;> conv => whnf)
   refine WSt.eqrH (m.h) m.h (by rfl) (by rfl) (by rfl) hh100 hh100 (r := false) (by rw [decide_eq_true rfl]; rfl) ?_; conv => whnf
   repeat' ((first | refine Qw ?_ | refine Qd (fun h => ?_) (fun h => ?_)) <;> conv => whnf)
   refine ⟨.inr rfl, _, rfl, ?_⟩
   refine .tp (.cons (.ag ?_) (.cons (.pu trivial) .nil))
   repeat' first | exact FzL.nil | refine FzL.cons ?_ ?_
   all_goals exact Fz.i rfl
 by_cases k2 : k = 2
 ·repeat' ((first | refine Qw ?_ | refine Qd (fun h => ?_) (fun h => ?_)) <;> conv => whnf)
  refine wSt.ldH (n := m.n + 1) (h := m.h) (box := m.box) (mix := m.mix) (c := c) (by rfl) (by rfl) (by rfl) (by omega) ?_; conv => whnf
  by_cases a1 : m.h c = 0
  ·rw [eC (fun h => by omega) (fun h => h.2.1 a1)]
   repeat' ((first | refine Qw ?_ | refine Qd (fun h => ?_) (fun h => ?_)) <;> conv => whnf)
   refine WSt.eqrH (m.h) m.h (by rfl) (by rfl) (by rfl) hh100 hh100 (r := false) (by rw [decide_eq_true rfl]; rfl) ?_; conv => whnf
   repeat' ((first | refine Qw ?_ | refine Qd (fun h => ?_) (fun h => ?_)) <;> conv => whnf)
   refine ⟨.inr rfl, _, rfl, ?_⟩
   refine .tp (.cons (.ag ?_) (.cons (.pu trivial) .nil))
   repeat' first | exact FzL.nil | refine FzL.cons ?_ ?_
   all_goals exact Fz.i rfl
  ·repeat' ((first | refine Qw ?_ | refine Qd (fun h => ?_) (fun h => ?_)) <;> conv => whnf)
   refine wSt.ldH (n := m.n + 1) (h := m.h) (box := m.box) (mix := m.mix) (c := 4 + t) (by rfl) (by rfl) (by rfl) (by omega) ?_; conv => whnf
   by_cases a2 : m.h (4 + t) = 0
   ·rw [eC (fun h => by omega) (fun h => h.2.2 a2)]
    repeat' ((first | refine Qw ?_ | refine Qd (fun h => ?_) (fun h => ?_)) <;> conv => whnf)
    refine WSt.eqrH (m.h) m.h (by rfl) (by rfl) (by rfl) hh100 hh100 (r := false) (by rw [decide_eq_true rfl]; rfl) ?_; conv => whnf
    repeat' ((first | refine Qw ?_ | refine Qd (fun h => ?_) (fun h => ?_)) <;> conv => whnf)
    refine ⟨.inr rfl, _, rfl, ?_⟩
    refine .tp (.cons (.ag ?_) (.cons (.pu trivial) .nil))
    repeat' first | exact FzL.nil | refine FzL.cons ?_ ?_
    all_goals exact Fz.i rfl
   ·rw [eU, if_neg (fun h => by omega), if_pos ⟨k2, a1, a2⟩]
    repeat' ((first | refine Qw ?_ | refine Qd (fun h => ?_) (fun h => ?_)) <;> conv => whnf)
    refine wSt.ldH (n := m.n + 1) (h := m.h) (box := m.box) (mix := m.mix) (c := c) (by rfl) (by rfl) (by rfl) (by omega) ?_; conv => whnf
    repeat' ((first | refine Qw ?_ | refine Qd (fun h => ?_) (fun h => ?_)) <;> conv => whnf)
    refine wSt.ldH (n := m.n + 1) (h := m.h) (box := m.box) (mix := m.mix) (c := 4 + t) (by rfl) (by rfl) (by rfl) (by omega) ?_; conv => whnf
    by_cases E : m.h c = m.h (4 + t)
    ·rw [if_neg (fun h => h E)]
     repeat' ((first | refine Qw ?_ | refine Qd (fun h => ?_) (fun h => ?_)) <;> conv => whnf)
     refine wSt.stH (n := m.n + 1) (h := m.h) (box := m.box) (mix := m.mix) (c := c) (v := 0) (by rfl) (by rfl) (by rfl) (by rfl) (by omega) ?_; conv => whnf
     repeat' ((first | refine Qw ?_ | refine Qd (fun h => ?_) (fun h => ?_)) <;> conv => whnf)
     refine wSt.stH (n := m.n + 1) (h := pH m.h c 0) (box := m.box) (mix := m.mix) (c := 4 + t) (v := 0) (by rfl) (by rfl) (by rfl) (by rfl) (by omega) ?_; conv => whnf
     repeat' ((first | refine Qw ?_ | refine Qd (fun h => ?_) (fun h => ?_)) <;> conv => whnf)
     refine WSt.eqrH (pH (pH m.h c 0) (4 + t) 0) m.h (by rfl) (by rfl) (by rfl) (sR (sR hh100 (by omega)) (by omega)) hh100 (r := true) (Le (c := c) (by omega) (by rw [hne]; omega)) ?_; conv => whnf
     repeat' ((first | refine Qw ?_ | refine Qd (fun h => ?_) (fun h => ?_)) <;> conv => whnf)
     refine ⟨.inr rfl, _, rfl, ?_⟩
     refine .tp (.cons (.ag ?_) (.cons (.pu trivial) .nil))
     repeat' first | exact FzL.nil | refine FzL.cons ?_ ?_
     all_goals exact Fz.i rfl
    ·rw [if_pos E]
     repeat' ((first | refine Qw ?_ | refine Qd (fun h => ?_) (fun h => ?_)) <;> conv => whnf)
     refine wSt.stH (n := m.n + 1) (h := m.h) (box := m.box) (mix := m.mix + 1) (c := c) (v := 0) (by rfl) (by rfl) (by rfl) (by rfl) (by omega) ?_; conv => whnf
     repeat' ((first | refine Qw ?_ | refine Qd (fun h => ?_) (fun h => ?_)) <;> conv => whnf)
     refine wSt.stH (n := m.n + 1) (h := pH m.h c 0) (box := m.box) (mix := m.mix + 1) (c := 4 + t) (v := 0) (by rfl) (by rfl) (by rfl) (by rfl) (by omega) ?_; conv => whnf
     repeat' ((first | refine Qw ?_ | refine Qd (fun h => ?_) (fun h => ?_)) <;> conv => whnf)
     refine WSt.eqrH (pH (pH m.h c 0) (4 + t) 0) m.h (by rfl) (by rfl) (by rfl) (sR (sR hh100 (by omega)) (by omega)) hh100 (r := true) (Le (c := c) (by omega) (by rw [hne]; omega)) ?_; conv => whnf
     repeat' ((first | refine Qw ?_ | refine Qd (fun h => ?_) (fun h => ?_)) <;> conv => whnf)
     refine ⟨.inr rfl, _, rfl, ?_⟩
     refine .tp (.cons (.ag ?_) (.cons (.pu trivial) .nil))
     repeat' first | exact FzL.nil | refine FzL.cons ?_ ?_
     all_goals exact Fz.i rfl
 ·rw [eC (fun h => k1 h.1) (fun h => k2 h.1)]
  repeat' ((first | refine Qw ?_ | refine Qd (fun h => ?_) (fun h => ?_)) <;> conv => whnf)
  refine WSt.eqrH (m.h) m.h (by rfl) (by rfl) (by rfl) hh100 hh100 (r := false) (by rw [decide_eq_true rfl]; rfl) ?_; conv => whnf
  repeat' ((first | refine Qw ?_ | refine Qd (fun h => ?_) (fun h => ?_)) <;> conv => whnf)
  refine ⟨.inr rfl, _, rfl, ?_⟩
  refine .tp (.cons (.ag ?_) (.cons (.pu trivial) .nil))
  repeat' first | exact FzL.nil | refine FzL.cons ?_ ?_
  all_goals exact Fz.i rfl
def fM (l : Ln) : List D := [.i .i64 l.k, .i .i64 l.c, .i .i64 l.t]
def kY (l : Ln) : Prop := sK .i64 l.k = true /\ sK .i64 l.c = true /\ sK .i64 l.t = true
def Rs (x r : Ln) : Bool := decide ([x.k, x.c, x.t] = [r.k, r.c, r.t])
theorem Eq {x r : Ln} : Rs x r = true ↔ x.k = r.k /\ x.c = r.c /\ x.t = r.t := by
 unfold Rs
 rw [decide_eq_true_iff]
 simp
theorem Yb (x r : Ln) (hx : kY x) (hr : kY r) : PureF Try.prog p108.ix [.ag [.i .i64 x.k, .i .i64 x.c, .i .i64 x.t], .pl (fM r) 0] (.b (Rs x r)) := by
 refine PureF.run SK (by simp) (by simp [aO, dE, Pu, fM]) ?_; conv => whnf
 refine Qg ?_
 refine WSt.eqrN [x.k, x.c, x.t] [r.k, r.c, r.t] rfl rfl rfl rfl (by intro y hy; simp only [List.mem_cons, List.not_mem_nil, or_false] at hy; rcases hy with rfl | rfl | rfl; exact hx.1; exact hx.2.1; exact hx.2.2) (by intro y hy; simp only [List.mem_cons, List.not_mem_nil, or_false] at hy; rcases hy with rfl | rfl | rfl; exact hr.1; exact hr.2.1; exact hr.2.2) (r := Rs x r) rfl ?_; conv => whnf
 refine Qg ?_
 exact Fin.b rfl rfl
theorem jN (n coin box : Int) (ls : List Ln) (cs : List Ct) (l : Ln) : PureF Try.prog p107.ix [.ag [.i .i64 n, .i .i64 coin, .i .i64 box, .lst 3 (aC aI ls), .lst 3 (aC cX cs), .any], .ag [.i .i64 l.k, .i .i64 l.c, .i .i64 l.t]] (.fn p135 [] [.pl (jB n coin box ls cs) 0, .pl (fM l) 0]) := by
 refine PureF.run VN (by simp) (by simp [aO, dE, Pu, aH, aB, aE]) ?_; conv => whnf
 refine Qg ?_
 refine Fin.t (.inr rfl) rfl (.fn .nil (.cons (Frz.ptr rfl rfl (by simp [jB]) (by simp [jB, aO, Pu, aB, aE])) (.cons (Frz.ptr rfl rfl (by simp [fM]) (by simp [fM, aO, Pu])) .nil)))
def Pw (row : List D) (l : Ln) : T D := (.n (.n (.n .e (some (.pt .h 0 0)) .e) none .e) none (.n (.n .e (some (.pt (.o .h) 0 0)) .e) none (.n .e (some (.fn p135 [] [.pl row 0, .pl (fM l) 0])) .e)))
def NM (row : List D) (l r : Ln) (ok : Bool) (st : LS) (j : Option Ex) : T C := (.n (.n .e (some (.cells false [.o (.b ok) 0] 1)) .e) (some (.cells false [.o (.fn p108 [] [.pl (fM r) 0]) 0] 1)) (.n .e (some (.lp (Pw row l) [p8] 11 (mG (aN Try.f105) 0) (mA (aN Try.f105) 0) st j)) .e))
def CV (row : List D) (n : Int) (l r : Ln) (ok : Bool) (st : LS) (j : Option Ex) : T C := (.n (.n (.n .e (some (.cells false [.o (.i .i64 (eJ l)) 0, .o (.i .i64 (nE l)) 0] 1)) .e) (some (.cells false [.o (.b ok) 0] 1)) (.n .e (some (.cells false [.o (.i .i64 (kZ l)) 0, .o (.i .i64 (oY n l)) 0] 1)) .e)) (some (.cells false [.o (.fn p108 [] [.pl (fM r) 0]) 0] 1)) (.n (.n .e (some (.cells false [.o (.i .i64 (gK l)) 0, .o (.i .i64 (mW n l)) 0] 1)) .e) (some (.lp (Pw row l) [p8] 11 (mG (aN Try.f105) 0) (mA (aN Try.f105) 0) st j)) .e))
def four4 : Pos := .o (.o .h)
def seven7 : Pos := .i (.i .h)
theorem Iy {row : List D} (h : aO row) (l : Ln) (q : Nat) (hq : 4 <= q) : ∀ s d, (Pw row l).get s = some d -> Kp q d := by
 show TAll (fun _ d => Kp q d) (Pw row l)
 unfold Pw
 repeat' first | exact TAll.e | refine TAll.some ?_ ?_ ?_ | refine TAll.none ?_ ?_
 all_goals first
  | (simp [Kp, KpL, Pu, aO, h, fM, Pos.nat]; done)
  | (simp [Kp, KpL, Pu, aO, h, fM, Pos.nat]; omega)
theorem HH {row : List D} (h : aO row) (l r : Ln) (ok : Bool) (st : LS) (j : Option Ex) : KpO four4.nat (NM row l r ok st j) := by
 have hs := Iy h l four4.nat (Nat.le_refl _)
 show TAll (fun id c => id.nat < four4.nat /\ KpC four4.nat c) (NM row l r ok st j)
 unfold NM
 repeat' first | exact TAll.e | refine TAll.some ?_ ?_ ?_ | refine TAll.none ?_ ?_
 all_goals refine ⟨by simp [Pos.nat, four4], ?_⟩
 all_goals first
  | exact hs
  | (refine KpL.all ?_; simp [KpL, Kp, Cell.d, Pu, aO, fM])
theorem vV {row : List D} (h : aO row) (n : Int) (l r : Ln) (ok : Bool) (st : LS) (j : Option Ex) : KpO seven7.nat (CV row n l r ok st j) := by
 have hs := Iy h l seven7.nat (by decide)
 show TAll (fun id c => id.nat < seven7.nat /\ KpC seven7.nat c) (CV row n l r ok st j)
 unfold CV
 repeat' first | exact TAll.e | refine TAll.some ?_ ?_ ?_ | refine TAll.none ?_ ?_
 all_goals refine ⟨by simp [Pos.nat, seven7], ?_⟩
 all_goals first
  | exact hs
  | (refine KpL.all ?_; simp [KpL, Kp, Cell.d, Pu, aO, fM])
theorem LF (row : List D) (hrow : aO row) (n : Int) (l r x : Ln) (hx : kY x) (hr : kY r) (sl : T D) (d : Option Pos) (K : X -> Prop)
 (k1 : Rs x r = true -> mY sl (CV row n l r true .done (some .ret)) seven7 none d K (.b false)) (k2 : Rs x r = false -> mY sl (CV row n l r false .ready none) seven7 none d K (.b true)) :
 WRnd Try.prog (.i .h) [.ag [.i .i64 x.k, .i .i64 x.c, .i .i64 x.t]] d ⟨sl, CV row n l r false .ready none, seven7, none⟩ K := by
 refine WRnd.run rfl Dl DY ⟨_, rfl, ?_⟩
 conv => whnf
 refine Qg ?_
 refine ⟨rfl, rfl, _, _, _, _, _, _, rfl, ?_⟩
 conv => whnf
 repeat' ((first | refine Qz ?_ | refine Qf (Yb x r hx hr) ?_) <;> conv => whnf)
 refine WB.mk (fun h => ?_) (fun h => ?_) <;> conv => whnf
 ·refine Qg ?_
  refine ⟨_, _, _, _, _, _, _, CV row n l r true .done (some .ret), seven7, rfl, rfl, ?_, Nat.le_refl _, k1 h⟩
  refine Shr.kp ?_ (vV hrow _ _ _ _ _ _)
  exact eK
 ·refine Qg ?_
  refine ⟨_, _, _, _, _, _, _, CV row n l r false .ready none, seven7, rfl, rfl, ?_, Nat.le_refl _, k2 h⟩
  refine Shr.kp ?_ (vV hrow _ _ _ _ _ _)
  exact eK
def CP (n : Int) (l r : Ln) : Prop := eJ l <= r.k /\ r.k <= nE l /\ gK l <= r.c /\ r.c <= mW n l /\ kZ l <= r.t /\ r.t <= oY n l
def Rl (row : List D) (l : Ln) (a : Int) : T D := (.n (.n (.n (.n .e (some (.i .i64 a)) .e) none .e) (some (.pl row 0)) (.n .e (some (.pt (.i (.o .h)) 0 0)) .e)) (some (.yl (.i .h))) (.n (.n .e (some (.pt (.o (.o .h)) 0 0)) .e) (some (.pl (fM l) 0)) (.n .e (some (.pt (.o (.i .h)) 0 0)) .e)))
def FY (row : List D) (l : Ln) (a b : Int) : T D := (.n (.n (.n (.n .e (some (.i .i64 a)) .e) none .e) (some (.pl row 0)) (.n .e (some (.pt (.i (.o .h)) 0 0)) .e)) (some (.yl (.i .h))) (.n (.n (.n .e (some (.i .i64 b)) .e) (some (.pt (.o (.o .h)) 0 0)) .e) (some (.pl (fM l) 0)) (.n .e (some (.pt (.o (.i .h)) 0 0)) .e)))
def GE (row : List D) (l : Ln) (a b c : Int) : T D := (.n (.n (.n (.n .e (some (.i .i64 a)) .e) none .e) (some (.pl row 0)) (.n (.n .e (some (.i .i64 c)) .e) (some (.pt (.i (.o .h)) 0 0)) .e)) (some (.yl (.i .h))) (.n (.n (.n .e (some (.i .i64 b)) .e) (some (.pt (.o (.o .h)) 0 0)) .e) (some (.pl (fM l) 0)) (.n .e (some (.pt (.o (.i .h)) 0 0)) .e)))
theorem QG {row : List D} (h : aO row) (l : Ln) (a : Int) : ∀ s d, (Rl row l a).get s = some d -> Kp seven7.nat d := by
 show TAll (fun _ d => Kp seven7.nat d) (Rl row l a)
 unfold Rl
 repeat' first | exact TAll.e | refine TAll.some ?_ ?_ ?_ | refine TAll.none ?_ ?_
 all_goals simp [Kp, KpL, Pu, aO, h, fM, seven7, Pos.nat]
theorem LX {row : List D} (h : aO row) (l : Ln) (a b : Int) : ∀ s d, (FY row l a b).get s = some d -> Kp seven7.nat d := by
 show TAll (fun _ d => Kp seven7.nat d) (FY row l a b)
 unfold FY
 repeat' first | exact TAll.e | refine TAll.some ?_ ?_ ?_ | refine TAll.none ?_ ?_
 all_goals simp [Kp, KpL, Pu, aO, h, fM, seven7, Pos.nat]
theorem LO {row : List D} (h : aO row) (l : Ln) (a b c : Int) : ∀ s d, (GE row l a b c).get s = some d -> Kp seven7.nat d := by
 show TAll (fun _ d => Kp seven7.nat d) (GE row l a b c)
 unfold GE
 repeat' first | exact TAll.e | refine TAll.some ?_ ?_ ?_ | refine TAll.none ?_ ?_
 all_goals simp [Kp, KpL, Pu, aO, h, fM, seven7, Pos.nat]
def WJ (row : List D) (n : Int) (l r : Ln) (v : D) (ob' : T C) : Prop :=
 v = .tp [] /\ ((CP n l r /\ ob' = NM row l r true .done (some .ret)) \/ (¬ CP n l r /\ ob' = NM row l r false .ready none))
theorem OG (n coin box : Int) (ls : List Ln) (cs : List Ct) (hn : 1 <= n /\ n <= 4) (l : Ln) (hk : 0 <= l.k /\ l.k <= 2) (hc : -1 <= l.c /\ l.c <= 3) (ht : -1 <= l.t /\ l.t <= 3) (r : Ln) (hr : kY r) :
 ∃ v ob', WJ (jB n coin box ls cs) n l r v ob' /\ CallOk Try.prog p135.ix [.yl (.i .h), .pl (jB n coin box ls cs) 0, .pl (fM l) 0] (NM (jB n coin box ls cs) l r false .ready none) four4 none v ob' four4 none := by
 have hrow := kA n coin box ls cs
 have b1 : 1 <= eJ l /\ eJ l <= nE l /\ nE l <= 2 := by
  unfold eJ nE
  split <;> omega
 have b2 : 0 <= gK l /\ gK l <= mW n l /\ mW n l <= 3 := by
  unfold gK mW
  split <;> omega
 have b3 : 0 <= kZ l /\ kZ l <= oY n l /\ oY n l <= 3 := by
  unfold kZ oY
  split <;> omega
 refine CallOk.runE Nd (by simp) (Nat.le_refl _) ?_; conv => whnf
 repeat' ((first | refine Qz ?_ | refine Qf (rO n coin box ls cs hn l) ?_) <;> conv => whnf)
 refine Rn.loop (fun a : Int => ⟨Rl (jB n coin box ls cs) l a, CV (jB n coin box ls cs) n l r false .ready none, seven7, none⟩) (fun a => eJ l <= a /\ a <= nE l + 1 /\ (CP n l r -> a <= r.k)) (fun a => (nE l + 1 - a).toNat) (eJ l) ?_ ?_ ?_
 ·refine X.le.mk ?_ ?_ (Nat.le_refl _) rfl rfl <;> (first | unfold Rl | unfold CV) <;> exact eK
 ·exact ⟨Int.le_refl _, by omega, fun h => h.1⟩
 rintro a ⟨i1, i2, i3⟩
 have i1 : eJ l <= a := i1
 have i2 : a <= nE l + 1 := i2
 have i3 : CP n l r -> a <= r.k := i3
 conv => whnf
 refine Qg ?_
 refine WB.dec (fun h => ?_) (fun h => ?_) <;> conv => whnf
 ·refine Qg ?_
  refine Rn.loop (fun b : Int => ⟨FY (jB n coin box ls cs) l a b, CV (jB n coin box ls cs) n l r false .ready none, seven7, none⟩) (fun b => gK l <= b /\ b <= mW n l + 1 /\ (CP n l r -> r.k = a -> b <= r.c)) (fun b => (mW n l + 1 - b).toNat) (gK l) ?_ ?_ ?_
  ·refine X.le.mk ?_ ?_ (Nat.le_refl _) rfl rfl <;> (first | unfold FY | unfold CV) <;> exact eK
  ·exact ⟨Int.le_refl _, by omega, fun h _ => h.2.2.1⟩
  rintro b ⟨j1, j2, j3⟩
  have j1 : gK l <= b := j1
  have j2 : b <= mW n l + 1 := j2
  have j3 : CP n l r -> r.k = a -> b <= r.c := j3
  conv => whnf
  refine Qg ?_
  refine WB.dec (fun h => ?_) (fun h => ?_) <;> conv => whnf
  ·refine Qg ?_
   refine Rn.loop (fun c : Int => ⟨GE (jB n coin box ls cs) l a b c, CV (jB n coin box ls cs) n l r false .ready none, seven7, none⟩) (fun c => kZ l <= c /\ c <= oY n l + 1 /\ (CP n l r -> r.k = a -> r.c = b -> c <= r.t)) (fun c => (oY n l + 1 - c).toNat) (kZ l) ?_ ?_ ?_
   ·refine X.le.mk ?_ ?_ (Nat.le_refl _) rfl rfl <;> (first | unfold GE | unfold CV) <;> exact eK
   ·exact ⟨Int.le_refl _, by omega, fun h _ _ => h.2.2.2.2.1⟩
   rintro c ⟨q1, q2, q3⟩
   have q1 : kZ l <= c := q1
   have q2 : c <= oY n l + 1 := q2
   have q3 : CP n l r -> r.k = a -> r.c = b -> c <= r.t := q3
   conv => whnf
   refine Qg ?_
   refine WB.dec (fun h => ?_) (fun h => ?_) <;> conv => whnf
   ·refine Qg ?_
    refine LF (jB n coin box ls cs) hrow n l r ⟨a, b, c⟩ ⟨cJ (by show _ <= a; omega) (by show a <= _; omega), cJ (by show _ <= b; omega) (by show b <= _; omega), cJ (by show _ <= c; omega) (by show c <= _; omega)⟩ hr _ _ _ (fun h => ?_) (fun h => ?_) <;> conv => whnf
    ·refine Qg ?_
     refine WB.mk (fun _ => ?_) (fun e => by cases e); conv => whnf
     refine Qg ?_
     obtain ⟨z1, z2, z3⟩ := Eq.1 h
     have z1 : a = r.k := z1
     have z2 : b = r.c := z2
     have z3 : c = r.t := z3
     refine ⟨_, _, ⟨rfl, .inl ⟨⟨by omega, by omega, by omega, by omega, by omega, by omega⟩, rfl⟩⟩, ⟨.inr rfl, ⟨_, rfl, .pu trivial⟩, Shr.kp ?_ (HH hrow _ _ _ _ _)⟩⟩
     unfold NM CV
     exact eK
    ·refine Qg ?_
     refine WB.mk (fun e => by cases e) (fun _ => ?_); conv => whnf
     refine Qg ?_
     refine Again.to (c + 1) (by omega) ⟨by omega, by omega, fun h1 h2 h3 => ?_⟩ (Nat.le_refl _) (Shr.kp2 ?_ (LO hrow _ _ _ _) (T.le_refl _) (vV hrow _ _ _ _ _ _))
     ·have h4 := q3 h1 h2 h3
      have h5 : ¬ c = r.t := fun e => by
       have := Eq.2 (show (⟨a, b, c⟩ : Ln).k = r.k /\ (⟨a, b, c⟩ : Ln).c = r.c /\ (⟨a, b, c⟩ : Ln).t = r.t from ⟨h2.symm, h3.symm, e⟩)
       rw [h] at this; cases this
      show c + 1 <= r.t
      omega
     ·(unfold GE; exact eK)
   ·refine Qg ?_
    refine Again.to (b + 1) (by omega) ⟨by omega, by omega, fun h1 h2 => ?_⟩ (Nat.le_refl _) (Shr.kp2 ?_ (LX hrow _ _ _) (T.le_refl _) (vV hrow _ _ _ _ _ _))
    ·have h4 := j3 h1 h2
     have h5 := h1.2.2.2.2.2
     have h6 : ¬ r.c = b := fun e => by have := q3 h1 h2 e; omega
     show b + 1 <= r.c
     omega
    ·(unfold FY; exact eK)
  ·refine Qg ?_
   refine Again.to (a + 1) (by omega) ⟨by omega, by omega, fun h1 => ?_⟩ (Nat.le_refl _) (Shr.kp2 ?_ (QG hrow _ _) (T.le_refl _) (vV hrow _ _ _ _ _ _))
   ·have h4 := i3 h1
    have h5 := h1.2.2.2.1
    have h6 : ¬ r.k = a := fun e => by have := j3 h1 e; omega
    show a + 1 <= r.k
    omega
   ·(unfold Rl; exact eK)
 ·refine Qg ?_
  refine ⟨_, _, ⟨rfl, .inr ⟨fun h1 => ?_, rfl⟩⟩, ⟨.inl rfl, ⟨_, rfl, .pu trivial⟩, Shr.kp ?_ (HH hrow _ _ _ _ _)⟩⟩
  ·have h4 := i3 h1
   have h5 := h1.2.1
   omega
  ·unfold NM CV
   exact eK
def Ba (n : Int) (l r : Ln) : Bool := decide (eJ l <= r.k /\ r.k <= nE l /\ gK l <= r.c /\ r.c <= mW n l /\ kZ l <= r.t /\ r.t <= oY n l)
theorem Oc (n coin box : Int) (ls : List Ln) (cs : List Ct) (hn : 1 <= n /\ n <= 4) (l : Ln) (hk : 0 <= l.k /\ l.k <= 2) (hc : -1 <= l.c /\ l.c <= 3) (ht : -1 <= l.t /\ l.t <= 3) (r : Ln) (hr : kY r) :
 PureF Try.prog p106.ix [.fn p135 [] [.pl (jB n coin box ls cs) 0, .pl (fM l) 0], .fn p108 [] [.pl (fM r) 0]] (.b (Ba n l r)) := by
 have hrow := kA n coin box ls cs
 have h3 : ∀ x : Ln, aO (fM x) := fun x => by simp [fM, aO, Pu]
 refine PureF.run SN (by simp) (by simp [aO, Pu, hrow, h3]) ?_; conv => whnf
 refine Qg ?_
 refine Rn.le (a := ⟨Pw (jB n coin box ls cs) l, (.n (.n .e (some (.cells false [.o (.b false) 0] 1)) .e) (some (.cells false [.o (.fn p108 [] [.pl (fM r) 0]) 0] 1)) .e), .i .h, none⟩) ?_ ?_
 ·obtain ⟨v, ob', ⟨rfl, hΦ⟩, C⟩ := OG n coin box ls cs hn l hk hc ht r hr
  rcases hΦ with ⟨ha, rfl⟩ | ⟨ha, rfl⟩
  ·refine Rn.rf rfl rfl C rfl (by simp) ?_; conv => whnf
   refine Qg ?_
   refine ⟨.inr rfl, _, rfl, ?_⟩
   rw [show Ba n l r = true from decide_eq_true ha]
   exact .pu trivial
  ·refine Rn.rf rfl rfl C rfl (by simp) ?_; conv => whnf
   refine Qg ?_
   refine ⟨.inr rfl, _, rfl, ?_⟩
   rw [show Ba n l r = false from decide_eq_false ha]
   exact .pu trivial
 ·refine X.le.mk ?_ ?_ (Nat.le_refl _) rfl rfl <;> (first | unfold Pw | skip) <;> exact eK
end Go.Ev
end
