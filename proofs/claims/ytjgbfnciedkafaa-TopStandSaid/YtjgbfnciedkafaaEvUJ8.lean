import Derived.Test.YtjgbfnciedkafaaEvUJ7
import Derived.Test.YtjgbfnciedkafaaEvUJ1
import Derived.Test.YtjgbfnciedkafaaEvUIt
set_option linter.all false
set_option maxHeartbeats 8000000
noncomputable section
namespace Go.Ev
open Go.Proofs
set_option maxRecDepth 100000
theorem AB : ∀ (xs ys : List Int), xs.length = ys.length -> (∀ n ∈ xs, qY .i64 n = true) -> (∀ n ∈ ys, qY .i64 n = true) -> Fg (xs.map fun _ => .i .i64) (xs.map fun n => D.i .i64 n) (ys.map fun n => D.i .i64 n) = some (decide (xs = ys))
 | [], [], _, _, _ => by simp [Fg]
 | a :: xs, b :: ys, hl, h1, h2 => by
   have ih := AB xs ys (by simpa using hl) (fun n hn => h1 n (by simp [hn])) (fun n hn => h2 n (by simp [hn]))
   have hk : vU .i64 .i64 = true := rfl
   have w1 := h1 a (by simp)
   have w2 := h2 b (by simp)
   simp only [List.map_cons, Fg, RK, hk, w1, w2, Bool.and_self, cond_true, ih, Option.some.injEq]
   rw [lF]
   by_cases h : a = b
   ·by_cases h' : xs = ys <;> simp [h, h']
   ·simp [h]
 | [], _ :: _, h, _, _ => by simp at h
 | _ :: _, [], h, _, _ => by simp at h
theorem WSt.eqrN {sl : T D} {ob : T C} {nx : Pos} {K : X -> Prop} {lg : Option (T Bool)} {d : Pos} {x y : RX} {neg : Bool} {ks : List LK} (xs ys : List Int) (h1 : bG sl x = some (.ag (xs.map fun n => D.i .i64 n))) (h2 : bG sl y = some (.ag (ys.map fun n => D.i .i64 n))) (hk : ks = xs.map fun _ => .i .i64) (hl : xs.length = ys.length) (w1 : ∀ n ∈ xs, qY .i64 n = true) (w2 : ∀ n ∈ ys, qY .i64 n = true) {r : Bool} (hr : (bif neg then !decide (xs = ys) else decide (xs = ys)) = r) (k : dX sl ob nx lg d K (.b r)) :
 WSt (.eqr d neg ks x y) ⟨sl, ob, nx, lg⟩ K := by
 obtain ⟨k1, k2⟩ := aT k
 refine ⟨_, ?_, k2⟩
 show sA _ _ _ x y sl ob nx lg = _
 unfold sA
 rw [h1, h2]
 have e : AZ ks (.ag (xs.map fun n => D.i .i64 n)) (.ag (ys.map fun n => D.i .i64 n)) = some (decide (xs = ys)) := by
  rw [hk]
  exact AB xs ys hl w1 w2
 simp only [e, bL, hr]
 exact k1
theorem JX {n : Int} (h : 0 <= n /\ n <= 100) : qY .i64 n = true := cL (by omega) (by omega)
def ON (n : Int) (h : Nat -> Int) (box mix a b c : Int) : List D := [.i .i64 n, .i .i64 (h 0), .i .i64 (h 1), .i .i64 (h 2), .i .i64 (h 3), .i .i64 (h 4), .i .i64 (h 5), .i .i64 (h 6), .i .i64 (h 7), .i .i64 box, .i .i64 mix, .i .i64 a, .i .i64 b, .i .i64 c]
theorem MH {n : Int} {h : Nat -> Int} {box mix x y z : Int} {c : Nat} (hc : c < 8) : ((ON n h box mix x y z).map fun d => Cell.o d 0)[1 + c * 1]? = some (.o (.i .i64 (h c)) 0) := by
 have : c = 0 \/ c = 1 \/ c = 2 \/ c = 3 \/ c = 4 \/ c = 5 \/ c = 6 \/ c = 7 := by omega
 rcases this with rfl | rfl | rfl | rfl | rfl | rfl | rfl | rfl <;> rfl
theorem OW {n : Int} {h : Nat -> Int} {box mix x y z : Int} {c : Nat} {v : Int} (hc : c < 8) : ((ON n h box mix x y z).map fun d => Cell.o d 0).set (1 + c * 1) (.o (.i .i64 v) 0) = (ON n (oF h c v) box mix x y z).map fun d => Cell.o d 0 := by
 have : c = 0 \/ c = 1 \/ c = 2 \/ c = 3 \/ c = 4 \/ c = 5 \/ c = 6 \/ c = 7 := by omega
 rcases this with rfl | rfl | rfl | rfl | rfl | rfl | rfl | rfl <;> simp [ON, oF]
theorem wSt.stH {id : Pos} {sl : T D} {ob : T C} {nx : Pos} {lg : Option (T Bool)} {K : X -> Prop} {cs : List Cell} {n box mix : Int} {h : Nat -> Int} {a b d : Int} {c : Nat} {v : Int} {x y : RX} (hx : bG sl x = some (.pt id (1 + c * 1) 0)) (hy : bG sl y = some (.i .i64 v)) (ho : ob.get id = some (.cells false cs 1)) (hcs : cs = (ON n h box mix a b d).map fun d => Cell.o d 0) (hc : c < 8) (hk : IM lg id fun lg => T.setK id (.cells false ((ON n (oF h c v) box mix a b d).map fun d => Cell.o d 0) 1) ob fun ob => K ⟨sl, ob, nx, lg⟩) : wSt (step (.st x y 1) sl ob nx lg) K := by
 subst hcs
 refine wSt.st1 hx hy ho rfl (MH hc) (Nat.le_refl _) ?_
 rw [OW hc]
 exact hk
theorem wSt.ldH {d id : Pos} {sl : T D} {ob : T C} {nx : Pos} {lg : Option (T Bool)} {K : X -> Prop} {cs : List Cell} {n box mix : Int} {h : Nat -> Int} {a b e : Int} {c : Nat} {x : RX} (hx : bG sl x = some (.pt id (1 + c * 1) 0)) (ho : ob.get id = some (.cells false cs 1)) (hcs : cs = (ON n h box mix a b e).map fun d => Cell.o d 0) (hc : c < 8) (hk : FJ lg id fun lg => dX sl ob nx lg d K (.i .i64 (h c))) : wSt (step (.ld1 d x) sl ob nx lg) K := by
 subst hcs
 exact wSt.ld1 hx ho (MH hc) (Nat.le_refl _) hk
def FL (h : Nat -> Int) : List Int := [h 0, h 1, h 2, h 3, h 4, h 5, h 6, h 7]
theorem Mw {h : Nat -> Int} {c : Nat} (hc : c < 8) : (FL h).getD c 0 = h c := by
 have : c = 0 \/ c = 1 \/ c = 2 \/ c = 3 \/ c = 4 \/ c = 5 \/ c = 6 \/ c = 7 := by omega
 rcases this with rfl | rfl | rfl | rfl | rfl | rfl | rfl | rfl <;> rfl
theorem MQ {h : Nat -> Int} (hh : ∀ q, 0 <= h q /\ h q <= 100) : ∀ x ∈ FL h, qY .i64 x = true := fun x hx => by
 simp only [FL, List.mem_cons, List.not_mem_nil, or_false] at hx
 rcases hx with rfl | rfl | rfl | rfl | rfl | rfl | rfl | rfl <;> exact JX (hh _)
theorem rP {h : Nat -> Int} {c : Nat} {v : Int} (hh : ∀ q, 0 <= h q /\ h q <= 100) (hv : 0 <= v /\ v <= 100) : ∀ q, 0 <= oF h c v q /\ oF h c v q <= 100 := fun q => by
 unfold oF
 split
 ·exact hv
 ·exact hh q
theorem WSt.eqrH {sl : T D} {ob : T C} {nx : Pos} {K : X -> Prop} {lg : Option (T Bool)} {d : Pos} {x y : RX} {ks : List LK} (g h : Nat -> Int) (h1 : bG sl x = some (.ag ((FL g).map fun n => D.i .i64 n))) (h2 : bG sl y = some (.ag ((FL h).map fun n => D.i .i64 n))) (hk : ks = (FL g).map fun _ => .i .i64) (hg : ∀ q, 0 <= g q /\ g q <= 100) (hh : ∀ q, 0 <= h q /\ h q <= 100) {r : Bool} (hr : (!decide (FL g = FL h)) = r) (k : dX sl ob nx lg d K (.b r)) :
 WSt (.eqr d true ks x y) ⟨sl, ob, nx, lg⟩ K := WSt.eqrN (FL g) (FL h) h1 h2 hk rfl (MQ hg) (MQ hh) hr k
theorem GF {g h : Nat -> Int} {c : Nat} (hc : c < 8) (e : g c ≠ h c) : (!decide (FL g = FL h)) = true := by
 rw [decide_eq_false (fun e' => e (by rw [<- Mw (h := g) hc, <- Mw (h := h) hc, e']))]; rfl
theorem Dx (n coin box : Int) (ls : List Ln) (cs : List Ct) (m : Mo) (l : Ln) (h1 : 1 <= coin /\ coin <= 99) (h2 : 0 <= m.n /\ m.n <= 50) (h3 : -100000 <= m.box /\ m.box <= 100000) (h4 : 0 <= m.mix /\ m.mix <= 50) (hh : ∀ q, 0 <= m.h q /\ m.h q <= 50) (hc : 0 <= l.c /\ l.c <= 3) (ht : 0 <= l.t /\ l.t <= 3) :
 PureF Try.prog p109.ix [.ag [.i .i64 n, .i .i64 coin, .i .i64 box, .lst 3 (aD aM ls), .lst 3 (aD dZ cs), .any], .ag (dW m), .ag [.i .i64 l.k, .i .i64 l.c, .i .i64 l.t]] (.tp [.ag (dW (kX coin m l).1), .b (kX coin m l).2]) := by
 obtain ⟨k, c, t⟩ := l
 dsimp only at hc ht
 obtain ⟨c, rfl⟩ := Int.eq_ofNat_of_zero_le hc.1
 obtain ⟨t, rfl⟩ := Int.eq_ofNat_of_zero_le ht.1
 dsimp only
 have hh100 : ∀ q, 0 <= m.h q /\ m.h q <= 100 := fun q => by have := hh q; omega
 have eU : kX coin m ⟨k, (c : Int), (t : Int)⟩ = (if k = 1 /\ m.h c = 0 /\ m.h (4 + t) = 0 then (⟨m.n + 1, oF (oF m.h c (m.n + 1)) (4 + t) (m.n + 1), m.box + coin, m.mix, ⟨k, (c : Int), (t : Int)⟩⟩, true)
  else if k = 2 /\ m.h c ≠ 0 /\ m.h (4 + t) ≠ 0 then (⟨m.n + 1, oF (oF m.h c 0) (4 + t) 0, m.box - coin, if m.h c ≠ m.h (4 + t) then m.mix + 1 else m.mix, ⟨k, (c : Int), (t : Int)⟩⟩, true)
  else (⟨m.n + 1, m.h, m.box, m.mix, ⟨k, (c : Int), (t : Int)⟩⟩, false)) := rfl
 have eC : ¬ (k = 1 /\ m.h c = 0 /\ m.h (4 + t) = 0) -> ¬ (k = 2 /\ m.h c ≠ 0 /\ m.h (4 + t) ≠ 0) -> kX coin m ⟨k, (c : Int), (t : Int)⟩ = (⟨m.n + 1, m.h, m.box, m.mix, ⟨k, (c : Int), (t : Int)⟩⟩, false) := fun a b => by rw [eU, if_neg a, if_neg b]
 have w1 := hh c
 have w2 := hh (4 + t)
 have hne : ∀ (g : Nat -> Int) (v w : Int), oF (oF g c v) (4 + t) w c = v := fun g v w => by unfold oF; rw [if_neg (by omega), if_pos rfl]
 unfold dW
 refine PureF.run Rd (by simp) (by simp [aO, eB, Pu, aJ, aB, aE]) ?_; conv => whnf
 repeat' ((first | refine Qw ?_ | refine Qd (fun h => ?_) (fun h => ?_)) <;> conv => whnf)
 refine WSt.ixaN (m := c) rfl rfl (by omega) (by omega) ?_; conv => whnf
 repeat' ((first | refine Qw ?_ | refine Qd (fun h => ?_) (fun h => ?_)) <;> conv => whnf)
 refine WSt.ixaN (m := 4 + t) rfl rfl (by omega) (by omega) ?_; conv => whnf
 by_cases k1 : k = 1
 ·repeat' ((first | refine Qw ?_ | refine Qd (fun h => ?_) (fun h => ?_)) <;> conv => whnf)
  refine wSt.ldH (n := m.n + 1) (h := m.h) (box := m.box) (mix := m.mix) (c := c) (by rfl) (by rfl) (by rfl) (by omega) ?_; conv => whnf
  by_cases a1 : m.h c = 0
  ·repeat' ((first | refine Qw ?_ | refine Qd (fun h => ?_) (fun h => ?_)) <;> conv => whnf)
   refine wSt.ldH (n := m.n + 1) (h := m.h) (box := m.box) (mix := m.mix) (c := 4 + t) (by rfl) (by rfl) (by rfl) (by omega) ?_; conv => whnf
   by_cases a2 : m.h (4 + t) = 0
   ·rw [eU, if_pos ⟨k1, a1, a2⟩]
    repeat' ((first | refine Qw ?_ | refine Qd (fun h => ?_) (fun h => ?_)) <;> conv => whnf)
    refine wSt.stH (n := m.n + 1) (h := m.h) (box := m.box) (mix := m.mix) (c := c) (v := m.n + 1) (by rfl) (by rfl) (by rfl) (by rfl) (by omega) ?_; conv => whnf
    repeat' ((first | refine Qw ?_ | refine Qd (fun h => ?_) (fun h => ?_)) <;> conv => whnf)
    refine wSt.stH (n := m.n + 1) (h := oF m.h c (m.n + 1)) (box := m.box) (mix := m.mix) (c := 4 + t) (v := m.n + 1) (by rfl) (by rfl) (by rfl) (by rfl) (by omega) ?_; conv => whnf
    repeat' ((first | refine Qw ?_ | refine Qd (fun h => ?_) (fun h => ?_)) <;> conv => whnf)
    refine WSt.eqrH (oF (oF m.h c (m.n + 1)) (4 + t) (m.n + 1)) m.h (by rfl) (by rfl) (by rfl) (rP (rP hh100 (by omega)) (by omega)) hh100 (r := true) (GF (c := c) (by omega) (by rw [hne]; omega)) ?_; conv => whnf
    repeat' ((first | refine Qw ?_ | refine Qd (fun h => ?_) (fun h => ?_)) <;> conv => whnf)
    refine ⟨.inr rfl, _, rfl, ?_⟩
    refine .tp (.cons (.ag ?_) (.cons (.pu trivial) .nil))
    repeat' first | exact FzL.nil | refine FzL.cons ?_ ?_
    all_goals exact Fz.i rfl
   ·rw [eC (fun h => a2 h.2.2) (fun h => by omega)]
    repeat' ((first | refine Qw ?_ | refine Qd (fun h => ?_) (fun h => ?_)) <;> conv => whnf)
    refine WSt.eqrH (m.h) m.h (by rfl) (by rfl) (by rfl) hh100 hh100 (r := false) (by rw [decide_eq_true rfl]; rfl) ?_; conv => whnf
    repeat' ((first | refine Qw ?_ | refine Qd (fun h => ?_) (fun h => ?_)) <;> conv => whnf)
    refine ⟨.inr rfl, _, rfl, ?_⟩
    refine .tp (.cons (.ag ?_) (.cons (.pu trivial) .nil))
    repeat' first | exact FzL.nil | refine FzL.cons ?_ ?_
    all_goals exact Fz.i rfl
  ·rw [eC (fun h => a1 h.2.1) (fun h => by omega)]
   repeat' ((first | refine Qw ?_ | refine Qd (fun h => ?_) (fun h => ?_)) <;> conv => whnf)
   refine WSt.eqrH (m.h) m.h (by rfl) (by rfl) (by rfl) hh100 hh100 (r := false) (by rw [decide_eq_true rfl]; rfl) ?_; conv => whnf
   repeat' ((first | refine Qw ?_ | refine Qd (fun h => ?_) (fun h => ?_)) <;> conv => whnf)
   refine ⟨.inr rfl, _, rfl, ?_⟩
   refine .tp (.cons (.ag ?_) (.cons (.pu trivial) .nil))
   repeat' first | exact FzL.nil | refine FzL.cons ?_ ?_
   all_goals exact Fz.i rfl
 by_cases k2 : k = 2
 ·repeat' ((first | refine Qw ?_ | refine Qd (fun h => ?_) (fun h => ?_)) <;> conv => whnf)
  refine wSt.ldH (n := m.n + 1) (h := m.h) (box := m.box) (mix := m.mix) (c := c) (by rfl) (by rfl) (by rfl) (by omega) ?_; conv => whnf
  by_cases a1 : m.h c = 0
  ·rw [eC (fun h => by omega) (fun h => h.2.1 a1)]
   repeat' ((first | refine Qw ?_ | refine Qd (fun h => ?_) (fun h => ?_)) <;> conv => whnf)
   refine WSt.eqrH (m.h) m.h (by rfl) (by rfl) (by rfl) hh100 hh100 (r := false) (by rw [decide_eq_true rfl]; rfl) ?_; conv => whnf
   repeat' ((first | refine Qw ?_ | refine Qd (fun h => ?_) (fun h => ?_)) <;> conv => whnf)
   refine ⟨.inr rfl, _, rfl, ?_⟩
   refine .tp (.cons (.ag ?_) (.cons (.pu trivial) .nil))
   repeat' first | exact FzL.nil | refine FzL.cons ?_ ?_
   all_goals exact Fz.i rfl
  ·repeat' ((first | refine Qw ?_ | refine Qd (fun h => ?_) (fun h => ?_)) <;> conv => whnf)
   refine wSt.ldH (n := m.n + 1) (h := m.h) (box := m.box) (mix := m.mix) (c := 4 + t) (by rfl) (by rfl) (by rfl) (by omega) ?_; conv => whnf
   by_cases a2 : m.h (4 + t) = 0
   ·rw [eC (fun h => by omega) (fun h => h.2.2 a2)]
    repeat' ((first | refine Qw ?_ | refine Qd (fun h => ?_) (fun h => ?_)) <;> conv => whnf)
    refine WSt.eqrH (m.h) m.h (by rfl) (by rfl) (by rfl) hh100 hh100 (r := false) (by rw [decide_eq_true rfl]; rfl) ?_; conv => whnf
    repeat' ((first | refine Qw ?_ | refine Qd (fun h => ?_) (fun h => ?_)) <;> conv => whnf)
    refine ⟨.inr rfl, _, rfl, ?_⟩
    refine .tp (.cons (.ag ?_) (.cons (.pu trivial) .nil))
    repeat' first | exact FzL.nil | refine FzL.cons ?_ ?_
    all_goals exact Fz.i rfl
   ·rw [eU, if_neg (fun h => by omega), if_pos ⟨k2, a1, a2⟩]
    repeat' ((first | refine Qw ?_ | refine Qd (fun h => ?_) (fun h => ?_)) <;> conv => whnf)
    refine wSt.ldH (n := m.n + 1) (h := m.h) (box := m.box) (mix := m.mix) (c := c) (by rfl) (by rfl) (by rfl) (by omega) ?_; conv => whnf
    repeat' ((first | refine Qw ?_ | refine Qd (fun h => ?_) (fun h => ?_)) <;> conv => whnf)
    refine wSt.ldH (n := m.n + 1) (h := m.h) (box := m.box) (mix := m.mix) (c := 4 + t) (by rfl) (by rfl) (by rfl) (by omega) ?_; conv => whnf
    by_cases E : m.h c = m.h (4 + t)
    ·rw [if_neg (fun h => h E)]
     repeat' ((first | refine Qw ?_ | refine Qd (fun h => ?_) (fun h => ?_)) <;> conv => whnf)
     refine wSt.stH (n := m.n + 1) (h := m.h) (box := m.box) (mix := m.mix) (c := c) (v := 0) (by rfl) (by rfl) (by rfl) (by rfl) (by omega) ?_; conv => whnf
     repeat' ((first | refine Qw ?_ | refine Qd (fun h => ?_) (fun h => ?_)) <;> conv => whnf)
     refine wSt.stH (n := m.n + 1) (h := oF m.h c 0) (box := m.box) (mix := m.mix) (c := 4 + t) (v := 0) (by rfl) (by rfl) (by rfl) (by rfl) (by omega) ?_; conv => whnf
     repeat' ((first | refine Qw ?_ | refine Qd (fun h => ?_) (fun h => ?_)) <;> conv => whnf)
     refine WSt.eqrH (oF (oF m.h c 0) (4 + t) 0) m.h (by rfl) (by rfl) (by rfl) (rP (rP hh100 (by omega)) (by omega)) hh100 (r := true) (GF (c := c) (by omega) (by rw [hne]; omega)) ?_; conv => whnf
     repeat' ((first | refine Qw ?_ | refine Qd (fun h => ?_) (fun h => ?_)) <;> conv => whnf)
     refine ⟨.inr rfl, _, rfl, ?_⟩
     refine .tp (.cons (.ag ?_) (.cons (.pu trivial) .nil))
     repeat' first | exact FzL.nil | refine FzL.cons ?_ ?_
     all_goals exact Fz.i rfl
    ·rw [if_pos E]
     repeat' ((first | refine Qw ?_ | refine Qd (fun h => ?_) (fun h => ?_)) <;> conv => whnf)
     refine wSt.stH (n := m.n + 1) (h := m.h) (box := m.box) (mix := m.mix + 1) (c := c) (v := 0) (by rfl) (by rfl) (by rfl) (by rfl) (by omega) ?_; conv => whnf
     repeat' ((first | refine Qw ?_ | refine Qd (fun h => ?_) (fun h => ?_)) <;> conv => whnf)
     refine wSt.stH (n := m.n + 1) (h := oF m.h c 0) (box := m.box) (mix := m.mix + 1) (c := 4 + t) (v := 0) (by rfl) (by rfl) (by rfl) (by rfl) (by omega) ?_; conv => whnf
     repeat' ((first | refine Qw ?_ | refine Qd (fun h => ?_) (fun h => ?_)) <;> conv => whnf)
     refine WSt.eqrH (oF (oF m.h c 0) (4 + t) 0) m.h (by rfl) (by rfl) (by rfl) (rP (rP hh100 (by omega)) (by omega)) hh100 (r := true) (GF (c := c) (by omega) (by rw [hne]; omega)) ?_; conv => whnf
     repeat' ((first | refine Qw ?_ | refine Qd (fun h => ?_) (fun h => ?_)) <;> conv => whnf)
     refine ⟨.inr rfl, _, rfl, ?_⟩
     refine .tp (.cons (.ag ?_) (.cons (.pu trivial) .nil))
     repeat' first | exact FzL.nil | refine FzL.cons ?_ ?_
     all_goals exact Fz.i rfl
 ·rw [eC (fun h => k1 h.1) (fun h => k2 h.1)]
  repeat' ((first | refine Qw ?_ | refine Qd (fun h => ?_) (fun h => ?_)) <;> conv => whnf)
  refine WSt.eqrH (m.h) m.h (by rfl) (by rfl) (by rfl) hh100 hh100 (r := false) (by rw [decide_eq_true rfl]; rfl) ?_; conv => whnf
  repeat' ((first | refine Qw ?_ | refine Qd (fun h => ?_) (fun h => ?_)) <;> conv => whnf)
  refine ⟨.inr rfl, _, rfl, ?_⟩
  refine .tp (.cons (.ag ?_) (.cons (.pu trivial) .nil))
  repeat' first | exact FzL.nil | refine FzL.cons ?_ ?_
  all_goals exact Fz.i rfl
def gB (l : Ln) : List D := [.i .i64 l.k, .i .i64 l.c, .i .i64 l.t]
def vJ (l : Ln) : Prop := qY .i64 l.k = true /\ qY .i64 l.c = true /\ qY .i64 l.t = true
def PK (x r : Ln) : Bool := decide ([x.k, x.c, x.t] = [r.k, r.c, r.t])
theorem DU {x r : Ln} : PK x r = true ↔ x.k = r.k /\ x.c = r.c /\ x.t = r.t := by
 unfold PK
 rw [decide_eq_true_iff]
 simp
theorem TZ (x r : Ln) (hx : vJ x) (hr : vJ r) : PureF Try.prog p108.ix [.ag [.i .i64 x.k, .i .i64 x.c, .i .i64 x.t], .pl (gB r) 0] (.b (PK x r)) := by
 refine PureF.run So (by simp) (by simp [aO, eB, Pu, gB]) ?_; conv => whnf
 refine Qg ?_
 refine WSt.eqrN [x.k, x.c, x.t] [r.k, r.c, r.t] rfl rfl rfl rfl (by intro y hy; simp only [List.mem_cons, List.not_mem_nil, or_false] at hy; rcases hy with rfl | rfl | rfl; exact hx.1; exact hx.2.1; exact hx.2.2) (by intro y hy; simp only [List.mem_cons, List.not_mem_nil, or_false] at hy; rcases hy with rfl | rfl | rfl; exact hr.1; exact hr.2.1; exact hr.2.2) (r := PK x r) rfl ?_; conv => whnf
 refine Qg ?_
 exact Fin.b rfl rfl
theorem lC (n coin box : Int) (ls : List Ln) (cs : List Ct) (l : Ln) : PureF Try.prog p107.ix [.ag [.i .i64 n, .i .i64 coin, .i .i64 box, .lst 3 (aD aM ls), .lst 3 (aD dZ cs), .any], .ag [.i .i64 l.k, .i .i64 l.c, .i .i64 l.t]] (.fn p135 [] [.pl (jI n coin box ls cs) 0, .pl (gB l) 0]) := by
 refine PureF.run SS (by simp) (by simp [aO, eB, Pu, aJ, aB, aE]) ?_; conv => whnf
 refine Qg ?_
 refine Fin.t (.inr rfl) rfl (.fn .nil (.cons (Frz.ptr rfl rfl (by simp [jI]) (by simp [jI, aO, Pu, aB, aE])) (.cons (Frz.ptr rfl rfl (by simp [gB]) (by simp [gB, aO, Pu])) .nil)))
def Nt (row : List D) (l : Ln) : T D := (.n (.n (.n .e (some (.pt .h 0 0)) .e) none .e) none (.n (.n .e (some (.pt (.o .h) 0 0)) .e) none (.n .e (some (.fn p135 [] [.pl row 0, .pl (gB l) 0])) .e)))
def MZ (row : List D) (l r : Ln) (ok : Bool) (st : LS) (j : Option Ex) : T C := (.n (.n .e (some (.cells false [.o (.b ok) 0] 1)) .e) (some (.cells false [.o (.fn p108 [] [.pl (gB r) 0]) 0] 1)) (.n .e (some (.lp (Nt row l) [p8] 11 (uY (aY Try.f105) 0) (uC (aY Try.f105) 0) st j)) .e))
def BN (row : List D) (n : Int) (l r : Ln) (ok : Bool) (st : LS) (j : Option Ex) : T C := (.n (.n (.n .e (some (.cells false [.o (.i .i64 (eM l)) 0, .o (.i .i64 (nV l)) 0] 1)) .e) (some (.cells false [.o (.b ok) 0] 1)) (.n .e (some (.cells false [.o (.i .i64 (kT l)) 0, .o (.i .i64 (oM n l)) 0] 1)) .e)) (some (.cells false [.o (.fn p108 [] [.pl (gB r) 0]) 0] 1)) (.n (.n .e (some (.cells false [.o (.i .i64 (gN l)) 0, .o (.i .i64 (nH n l)) 0] 1)) .e) (some (.lp (Nt row l) [p8] 11 (uY (aY Try.f105) 0) (uC (aY Try.f105) 0) st j)) .e))
def four4 : Pos := .o (.o .h)
def seven7 : Pos := .i (.i .h)
theorem Ie {row : List D} (h : aO row) (l : Ln) (q : Nat) (hq : 4 <= q) : ∀ s d, (Nt row l).get s = some d -> Kp q d := by
 show TAll (fun _ d => Kp q d) (Nt row l)
 unfold Nt
 repeat' first | exact TAll.e | refine TAll.some ?_ ?_ ?_ | refine TAll.none ?_ ?_
 all_goals first
  | (simp [Kp, KpL, Pu, aO, h, gB, Pos.nat]; done)
  | (simp [Kp, KpL, Pu, aO, h, gB, Pos.nat]; omega)
theorem HD {row : List D} (h : aO row) (l r : Ln) (ok : Bool) (st : LS) (j : Option Ex) : KpO four4.nat (MZ row l r ok st j) := by
 have hs := Ie h l four4.nat (Nat.le_refl _)
 show TAll (fun id c => id.nat < four4.nat /\ KpC four4.nat c) (MZ row l r ok st j)
 unfold MZ
 repeat' first | exact TAll.e | refine TAll.some ?_ ?_ ?_ | refine TAll.none ?_ ?_
 all_goals refine ⟨by simp [Pos.nat, four4], ?_⟩
 all_goals first
  | exact hs
  | (refine KpL.all ?_; simp [KpL, Kp, Cell.d, Pu, aO, gB])
theorem tN {row : List D} (h : aO row) (n : Int) (l r : Ln) (ok : Bool) (st : LS) (j : Option Ex) : KpO seven7.nat (BN row n l r ok st j) := by
 have hs := Ie h l seven7.nat (by decide)
 show TAll (fun id c => id.nat < seven7.nat /\ KpC seven7.nat c) (BN row n l r ok st j)
 unfold BN
 repeat' first | exact TAll.e | refine TAll.some ?_ ?_ ?_ | refine TAll.none ?_ ?_
 all_goals refine ⟨by simp [Pos.nat, seven7], ?_⟩
 all_goals first
  | exact hs
  | (refine KpL.all ?_; simp [KpL, Kp, Cell.d, Pu, aO, gB])
theorem LV (row : List D) (hrow : aO row) (n : Int) (l r x : Ln) (hx : vJ x) (hr : vJ r) (sl : T D) (d : Option Pos) (K : X -> Prop)
 (k1 : PK x r = true -> kW sl (BN row n l r true .done (some .ret)) seven7 none d K (.b false)) (k2 : PK x r = false -> kW sl (BN row n l r false .ready none) seven7 none d K (.b true)) :
 WRnd Try.prog (.i .h) [.ag [.i .i64 x.k, .i .i64 x.c, .i .i64 x.t]] d ⟨sl, BN row n l r false .ready none, seven7, none⟩ K := by
 refine WRnd.run rfl CC Ca ⟨_, rfl, ?_⟩
 conv => whnf
 refine Qg ?_
 refine ⟨rfl, rfl, _, _, _, _, _, _, rfl, ?_⟩
 conv => whnf
 repeat' ((first | refine Qz ?_ | refine Qf (TZ x r hx hr) ?_) <;> conv => whnf)
 refine WB.mk (fun h => ?_) (fun h => ?_) <;> conv => whnf
 ·refine Qg ?_
  refine ⟨_, _, _, _, _, _, _, BN row n l r true .done (some .ret), seven7, rfl, rfl, ?_, Nat.le_refl _, k1 h⟩
  refine Shr.kp ?_ (tN hrow _ _ _ _ _ _)
  exact gC
 ·refine Qg ?_
  refine ⟨_, _, _, _, _, _, _, BN row n l r false .ready none, seven7, rfl, rfl, ?_, Nat.le_refl _, k2 h⟩
  refine Shr.kp ?_ (tN hrow _ _ _ _ _ _)
  exact gC
def Aw (n : Int) (l r : Ln) : Prop := eM l <= r.k /\ r.k <= nV l /\ gN l <= r.c /\ r.c <= nH n l /\ kT l <= r.t /\ r.t <= oM n l
def PN (row : List D) (l : Ln) (a : Int) : T D := (.n (.n (.n (.n .e (some (.i .i64 a)) .e) none .e) (some (.pl row 0)) (.n .e (some (.pt (.i (.o .h)) 0 0)) .e)) (some (.yl (.i .h))) (.n (.n .e (some (.pt (.o (.o .h)) 0 0)) .e) (some (.pl (gB l) 0)) (.n .e (some (.pt (.o (.i .h)) 0 0)) .e)))
def Fl (row : List D) (l : Ln) (a b : Int) : T D := (.n (.n (.n (.n .e (some (.i .i64 a)) .e) none .e) (some (.pl row 0)) (.n .e (some (.pt (.i (.o .h)) 0 0)) .e)) (some (.yl (.i .h))) (.n (.n (.n .e (some (.i .i64 b)) .e) (some (.pt (.o (.o .h)) 0 0)) .e) (some (.pl (gB l) 0)) (.n .e (some (.pt (.o (.i .h)) 0 0)) .e)))
def Fs (row : List D) (l : Ln) (a b c : Int) : T D := (.n (.n (.n (.n .e (some (.i .i64 a)) .e) none .e) (some (.pl row 0)) (.n (.n .e (some (.i .i64 c)) .e) (some (.pt (.i (.o .h)) 0 0)) .e)) (some (.yl (.i .h))) (.n (.n (.n .e (some (.i .i64 b)) .e) (some (.pt (.o (.o .h)) 0 0)) .e) (some (.pl (gB l) 0)) (.n .e (some (.pt (.o (.i .h)) 0 0)) .e)))
theorem Pv {row : List D} (h : aO row) (l : Ln) (a : Int) : ∀ s d, (PN row l a).get s = some d -> Kp seven7.nat d := by
 show TAll (fun _ d => Kp seven7.nat d) (PN row l a)
 unfold PN
 repeat' first | exact TAll.e | refine TAll.some ?_ ?_ ?_ | refine TAll.none ?_ ?_
 all_goals simp [Kp, KpL, Pu, aO, h, gB, seven7, Pos.nat]
theorem Jy {row : List D} (h : aO row) (l : Ln) (a b : Int) : ∀ s d, (Fl row l a b).get s = some d -> Kp seven7.nat d := by
 show TAll (fun _ d => Kp seven7.nat d) (Fl row l a b)
 unfold Fl
 repeat' first | exact TAll.e | refine TAll.some ?_ ?_ ?_ | refine TAll.none ?_ ?_
 all_goals simp [Kp, KpL, Pu, aO, h, gB, seven7, Pos.nat]
theorem Mh {row : List D} (h : aO row) (l : Ln) (a b c : Int) : ∀ s d, (Fs row l a b c).get s = some d -> Kp seven7.nat d := by
 show TAll (fun _ d => Kp seven7.nat d) (Fs row l a b c)
 unfold Fs
 repeat' first | exact TAll.e | refine TAll.some ?_ ?_ ?_ | refine TAll.none ?_ ?_
 all_goals simp [Kp, KpL, Pu, aO, h, gB, seven7, Pos.nat]
def UP (row : List D) (n : Int) (l r : Ln) (v : D) (ob' : T C) : Prop :=
 v = .tp [] /\ ((Aw n l r /\ ob' = MZ row l r true .done (some .ret)) \/ (¬ Aw n l r /\ ob' = MZ row l r false .ready none))
theorem Ok (n coin box : Int) (ls : List Ln) (cs : List Ct) (hn : 1 <= n /\ n <= 4) (l : Ln) (hk : 0 <= l.k /\ l.k <= 2) (hc : -1 <= l.c /\ l.c <= 3) (ht : -1 <= l.t /\ l.t <= 3) (r : Ln) (hr : vJ r) :
 ∃ v ob', UP (jI n coin box ls cs) n l r v ob' /\ CallOk Try.prog p135.ix [.yl (.i .h), .pl (jI n coin box ls cs) 0, .pl (gB l) 0] (MZ (jI n coin box ls cs) l r false .ready none) four4 none v ob' four4 none := by
 have hrow := jV n coin box ls cs
 have b1 : 1 <= eM l /\ eM l <= nV l /\ nV l <= 2 := by
  unfold eM nV
  split <;> omega
 have b2 : 0 <= gN l /\ gN l <= nH n l /\ nH n l <= 3 := by
  unfold gN nH
  split <;> omega
 have b3 : 0 <= kT l /\ kT l <= oM n l /\ oM n l <= 3 := by
  unfold kT oM
  split <;> omega
 refine CallOk.runE MC (by simp) (Nat.le_refl _) ?_; conv => whnf
 repeat' ((first | refine Qz ?_ | refine Qf (pM n coin box ls cs hn l) ?_) <;> conv => whnf)
 refine Rn.loop (fun a : Int => ⟨PN (jI n coin box ls cs) l a, BN (jI n coin box ls cs) n l r false .ready none, seven7, none⟩) (fun a => eM l <= a /\ a <= nV l + 1 /\ (Aw n l r -> a <= r.k)) (fun a => (nV l + 1 - a).toNat) (eM l) ?_ ?_ ?_
 ·refine X.le.mk ?_ ?_ (Nat.le_refl _) rfl rfl <;> (first | unfold PN | unfold BN) <;> exact gC
 ·exact ⟨Int.le_refl _, by omega, fun h => h.1⟩
 rintro a ⟨i1, i2, i3⟩
 have i1 : eM l <= a := i1
 have i2 : a <= nV l + 1 := i2
 have i3 : Aw n l r -> a <= r.k := i3
 conv => whnf
 refine Qg ?_
 refine WB.dec (fun h => ?_) (fun h => ?_) <;> conv => whnf
 ·refine Qg ?_
  refine Rn.loop (fun b : Int => ⟨Fl (jI n coin box ls cs) l a b, BN (jI n coin box ls cs) n l r false .ready none, seven7, none⟩) (fun b => gN l <= b /\ b <= nH n l + 1 /\ (Aw n l r -> r.k = a -> b <= r.c)) (fun b => (nH n l + 1 - b).toNat) (gN l) ?_ ?_ ?_
  ·refine X.le.mk ?_ ?_ (Nat.le_refl _) rfl rfl <;> (first | unfold Fl | unfold BN) <;> exact gC
  ·exact ⟨Int.le_refl _, by omega, fun h _ => h.2.2.1⟩
  rintro b ⟨j1, j2, j3⟩
  have j1 : gN l <= b := j1
  have j2 : b <= nH n l + 1 := j2
  have j3 : Aw n l r -> r.k = a -> b <= r.c := j3
  conv => whnf
  refine Qg ?_
  refine WB.dec (fun h => ?_) (fun h => ?_) <;> conv => whnf
  ·refine Qg ?_
   refine Rn.loop (fun c : Int => ⟨Fs (jI n coin box ls cs) l a b c, BN (jI n coin box ls cs) n l r false .ready none, seven7, none⟩) (fun c => kT l <= c /\ c <= oM n l + 1 /\ (Aw n l r -> r.k = a -> r.c = b -> c <= r.t)) (fun c => (oM n l + 1 - c).toNat) (kT l) ?_ ?_ ?_
   ·refine X.le.mk ?_ ?_ (Nat.le_refl _) rfl rfl <;> (first | unfold Fs | unfold BN) <;> exact gC
   ·exact ⟨Int.le_refl _, by omega, fun h _ _ => h.2.2.2.2.1⟩
   rintro c ⟨q1, q2, q3⟩
   have q1 : kT l <= c := q1
   have q2 : c <= oM n l + 1 := q2
   have q3 : Aw n l r -> r.k = a -> r.c = b -> c <= r.t := q3
   conv => whnf
   refine Qg ?_
   refine WB.dec (fun h => ?_) (fun h => ?_) <;> conv => whnf
   ·refine Qg ?_
    refine LV (jI n coin box ls cs) hrow n l r ⟨a, b, c⟩ ⟨cL (by show _ <= a; omega) (by show a <= _; omega), cL (by show _ <= b; omega) (by show b <= _; omega), cL (by show _ <= c; omega) (by show c <= _; omega)⟩ hr _ _ _ (fun h => ?_) (fun h => ?_) <;> conv => whnf
    ·refine Qg ?_
     refine WB.mk (fun _ => ?_) (fun e => by cases e); conv => whnf
     refine Qg ?_
     obtain ⟨z1, z2, z3⟩ := DU.1 h
     have z1 : a = r.k := z1
     have z2 : b = r.c := z2
     have z3 : c = r.t := z3
     refine ⟨_, _, ⟨rfl, .inl ⟨⟨by omega, by omega, by omega, by omega, by omega, by omega⟩, rfl⟩⟩, ⟨.inr rfl, ⟨_, rfl, .pu trivial⟩, Shr.kp ?_ (HD hrow _ _ _ _ _)⟩⟩
     unfold MZ BN
     exact gC
    ·refine Qg ?_
     refine WB.mk (fun e => by cases e) (fun _ => ?_); conv => whnf
     refine Qg ?_
     refine Again.to (c + 1) (by omega) ⟨by omega, by omega, fun h1 h2 h3 => ?_⟩ (Nat.le_refl _) (Shr.kp2 ?_ (Mh hrow _ _ _ _) (T.le_refl _) (tN hrow _ _ _ _ _ _))
     ·have h4 := q3 h1 h2 h3
      have h5 : ¬ c = r.t := fun e => by
       have := DU.2 (show (⟨a, b, c⟩ : Ln).k = r.k /\ (⟨a, b, c⟩ : Ln).c = r.c /\ (⟨a, b, c⟩ : Ln).t = r.t from ⟨h2.symm, h3.symm, e⟩)
       rw [h] at this; cases this
      show c + 1 <= r.t
      omega
     ·(unfold Fs; exact gC)
   ·refine Qg ?_
    refine Again.to (b + 1) (by omega) ⟨by omega, by omega, fun h1 h2 => ?_⟩ (Nat.le_refl _) (Shr.kp2 ?_ (Jy hrow _ _ _) (T.le_refl _) (tN hrow _ _ _ _ _ _))
    ·have h4 := j3 h1 h2
     have h5 := h1.2.2.2.2.2
     have h6 : ¬ r.c = b := fun e => by have := q3 h1 h2 e; omega
     show b + 1 <= r.c
     omega
    ·(unfold Fl; exact gC)
  ·refine Qg ?_
   refine Again.to (a + 1) (by omega) ⟨by omega, by omega, fun h1 => ?_⟩ (Nat.le_refl _) (Shr.kp2 ?_ (Pv hrow _ _) (T.le_refl _) (tN hrow _ _ _ _ _ _))
   ·have h4 := i3 h1
    have h5 := h1.2.2.2.1
    have h6 : ¬ r.k = a := fun e => by have := j3 h1 e; omega
    show a + 1 <= r.k
    omega
   ·(unfold PN; exact gC)
 ·refine Qg ?_
  refine ⟨_, _, ⟨rfl, .inr ⟨fun h1 => ?_, rfl⟩⟩, ⟨.inl rfl, ⟨_, rfl, .pu trivial⟩, Shr.kp ?_ (HD hrow _ _ _ _ _)⟩⟩
  ·have h4 := i3 h1
   have h5 := h1.2.1
   omega
  ·unfold MZ BN
   exact gC
def Am (n : Int) (l r : Ln) : Bool := decide (eM l <= r.k /\ r.k <= nV l /\ gN l <= r.c /\ r.c <= nH n l /\ kT l <= r.t /\ r.t <= oM n l)
theorem Oi (n coin box : Int) (ls : List Ln) (cs : List Ct) (hn : 1 <= n /\ n <= 4) (l : Ln) (hk : 0 <= l.k /\ l.k <= 2) (hc : -1 <= l.c /\ l.c <= 3) (ht : -1 <= l.t /\ l.t <= 3) (r : Ln) (hr : vJ r) :
 PureF Try.prog p106.ix [.fn p135 [] [.pl (jI n coin box ls cs) 0, .pl (gB l) 0], .fn p108 [] [.pl (gB r) 0]] (.b (Am n l r)) := by
 have hrow := jV n coin box ls cs
 have h3 : ∀ x : Ln, aO (gB x) := fun x => by simp [gB, aO, Pu]
 refine PureF.run Td (by simp) (by simp [aO, Pu, hrow, h3]) ?_; conv => whnf
 refine Qg ?_
 refine Rn.le (a := ⟨Nt (jI n coin box ls cs) l, (.n (.n .e (some (.cells false [.o (.b false) 0] 1)) .e) (some (.cells false [.o (.fn p108 [] [.pl (gB r) 0]) 0] 1)) .e), .i .h, none⟩) ?_ ?_
 ·obtain ⟨v, ob', ⟨rfl, hΦ⟩, C⟩ := Ok n coin box ls cs hn l hk hc ht r hr
  rcases hΦ with ⟨ha, rfl⟩ | ⟨ha, rfl⟩
  ·refine Rn.rf rfl rfl C rfl (by simp) ?_; conv => whnf
   refine Qg ?_
   refine ⟨.inr rfl, _, rfl, ?_⟩
   rw [show Am n l r = true from decide_eq_true ha]
   exact .pu trivial
  ·refine Rn.rf rfl rfl C rfl (by simp) ?_; conv => whnf
   refine Qg ?_
   refine ⟨.inr rfl, _, rfl, ?_⟩
   rw [show Am n l r = false from decide_eq_false ha]
   exact .pu trivial
 ·refine X.le.mk ?_ ?_ (Nat.le_refl _) rfl rfl <;> (first | unfold Nt | skip) <;> exact gC
end Go.Ev
end
