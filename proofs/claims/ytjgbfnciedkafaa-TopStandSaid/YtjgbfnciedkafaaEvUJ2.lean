import Derived.Test.YtjgbfnciedkafaaEvUJs
import Derived.Test.YtjgbfnciedkafaaEvUJ1
set_option linter.all false
set_option maxHeartbeats 8000000
noncomputable section
namespace Go.Ev
open Go.Proofs
set_option maxRecDepth 100000
def zQ (n coin box : Int) (ls : List Ln) (cs : List Ct) : C := .cells false [.o (.i .i64 n) 0, .o (.i .i64 coin) 0, .o (.i .i64 box) 0, .o (.lst 3 (aD aM ls)) 0, .o (.lst 3 (aD dZ cs)) 0] 1
theorem zS (n coin box : Int) (ls : List Ln) (cs : List Ct) (m : Nat) : KpC m (zQ n coin box ls cs) := by
 refine KpL.all ?_
 simp [KpL, Kp, Cell.d, Pu, aB, aE]
def KB (l : Ln) : C := .cells false [.o (.i .i64 l.k) 0, .o (.i .i64 l.c) 0, .o (.i .i64 l.t) 0] 1
theorem NJ (l : Ln) (m : Nat) : KpC m (KB l) := by
 refine KpL.all ?_
 simp [KpL, Kp, Cell.d, Pu]
theorem nR (n a b : Int) : PureF Try.prog p36.ix [.i .i64 n, .i .i64 a, .i .i64 b] (.b (gS n a b)) := by
 refine PureF.run Uj (by simp) (by simp [aO, eB, Pu]) ?_; conv => whnf
 repeat' ((first | refine Qz ?_ | with_reducible refine WB.dec (fun h => ?_) (fun h => ?_) | with_reducible refine WB.ndec (fun h => ?_) (fun h => ?_) | refine WB.mk (fun h => ?_) (fun h => ?_)) <;> conv => whnf)
 all_goals
  refine Fin.b rfl ?_
  unfold gS
  first
   | exact (decide_eq_false (by omega)).symm
   | (congr 1; apply propext; constructor <;> intro hh <;> omega)
theorem IC (l x : Ln) : PureF Try.prog p84.ix [.ag (aM l), .ag (aM x)] (.b (oI l x)) := by
 obtain ⟨a, b, c⟩ := l
 obtain ⟨a', b', c'⟩ := x
 refine PureF.run TP (by simp) (by simp [aO, eB, Pu, aM]) ?_; conv => whnf
 repeat' ((first | refine Qz ?_ | with_reducible refine WB.dec (fun h => ?_) (fun h => ?_) | with_reducible refine WB.ndec (fun h => ?_) (fun h => ?_) | refine WB.mk (fun h => ?_) (fun h => ?_)) <;> conv => whnf)
 all_goals exact Fin.b rfl (by unfold oI; simp_all <;> omega)
def rA (n : Int) (l : Ln) (i j : Int) : Nat -> List Ln
 | 0 => []
 | k + 1 => rA n l i j k ++ bif oI l ⟨i, j, (k : Int)⟩ then [⟨i, j, (k : Int)⟩] else []
def gQ (n : Int) (l : Ln) (i : Int) : Nat -> List Ln
 | 0 => []
 | j + 1 => gQ n l i j ++ rA n l i (j : Int) n.toNat
def Bl (n : Int) (l : Ln) : Nat -> List Ln
 | 0 => []
 | i + 1 => Bl n l i ++ gQ n l ((i : Int) + 1) n.toNat
def nW (n : Int) (l : Ln) : List Ln := Bl n l 2
theorem yQ (n : Int) (l : Ln) (i j : Int) : ∀ k, (rA n l i j k).length <= k
 | 0 => Nat.le_refl _
 | k + 1 => by
   have := yQ n l i j k
   unfold rA
   rw [List.length_append]
   cases oI l ⟨i, j, (k : Int)⟩ <;> simp <;> omega
theorem yI (n : Int) (l : Ln) (i : Int) (h4 : n.toNat <= 4) : ∀ j, (gQ n l i j).length <= j * 4
 | 0 => Nat.le_refl _
 | j + 1 => by
   have := yI n l i h4 j
   have := yQ n l i (j : Int) n.toNat
   unfold gQ
   rw [List.length_append]
   omega
theorem Eq (n : Int) (l : Ln) (h4 : n.toNat <= 4) : ∀ i, (Bl n l i).length <= i * 16
 | 0 => Nat.le_refl _
 | i + 1 => by
   have := Eq n l h4 i
   have := yI n l ((i : Int) + 1) h4 n.toNat
   unfold Bl
   rw [List.length_append]
   omega
theorem Gf : ∀ n ∈ [(1 : Int), 2, 3, 4], ∀ k ∈ [(0 : Int), 1, 2], ∀ c ∈ [(-1 : Int), 0, 1, 2, 3], ∀ t ∈ [(-1 : Int), 0, 1, 2, 3], (c < n && t < n) = true -> decide (((nW n ⟨k, c, t⟩).length : Int) = jX n ⟨k, c, t⟩) = true := by decide +kernel
theorem Av {n : Int} {l : Ln} (hn : 1 <= n /\ n <= 4) (hl : cB n l = true) : ((nW n l).length : Int) = jX n l := by
 obtain ⟨k, c, t⟩ := l
 unfold cB at hl
 rw [Bool.and_eq_true, Bool.and_eq_true, aP, aP, aP] at hl
 obtain ⟨h1, h2, h3⟩ := hl
 have h1 : 0 <= k /\ k <= 2 := h1
 have h2 : -1 <= c /\ c <= n - 1 := h2
 have h3 : -1 <= t /\ t <= n - 1 := h3
 have mn : n ∈ [(1 : Int), 2, 3, 4] := by
  have : n = 1 \/ n = 2 \/ n = 3 \/ n = 4 := by omega
  rcases this with rfl | rfl | rfl | rfl <;> simp
 have mk : k ∈ [(0 : Int), 1, 2] := by
  have : k = 0 \/ k = 1 \/ k = 2 := by omega
  rcases this with rfl | rfl | rfl <;> simp
 have mc : c ∈ [(-1 : Int), 0, 1, 2, 3] := by
  have : c = -1 \/ c = 0 \/ c = 1 \/ c = 2 \/ c = 3 := by omega
  rcases this with rfl | rfl | rfl | rfl | rfl <;> simp
 have mt : t ∈ [(-1 : Int), 0, 1, 2, 3] := by
  have : t = -1 \/ t = 0 \/ t = 1 \/ t = 2 \/ t = 3 := by omega
  rcases this with rfl | rfl | rfl | rfl | rfl <;> simp
 exact of_decide_eq_true (Gf n mn k mk c mc t mt (by rw [Bool.and_eq_true, decide_eq_true_iff, decide_eq_true_iff]; omega))
def IX (A : List Ln) : List D := (aD aM A).flatten
theorem Jp (A : List Ln) : (IX A).length = A.length * 3 := by
 induction A with
 | nil => rfl
 | cons a A ih => unfold IX aD at *; rw [List.map_cons, List.flatten_cons, List.length_append, ih, List.length_cons]; simp [aM]; omega
theorem OH (A : List Ln) : aO (IX A) := aG.2 fun d hd => by
 obtain ⟨r, hr, hd⟩ := List.mem_flatten.1 hd
 exact aG.1 (pG.1 (aB A) r hr) d hd
theorem Gb (A : List Ln) (x : Ln) : IX (A ++ [x]) = IX A ++ aM x := by simp [IX, aD]
theorem NK (n st m : Nat) (A : List Ln) : KpC n (.cells false ((IX A).map fun d => Cell.o d st) m) := fun c hc => by
 obtain ⟨d, hd, rfl⟩ := List.mem_map.1 hc
 obtain ⟨r, hr, hd⟩ := List.mem_flatten.1 hd
 obtain ⟨x, _, rfl⟩ := List.mem_map.1 hr
 simp only [aM, List.mem_cons, List.not_mem_nil, or_false] at hd
 rcases hd with rfl | rfl | rfl <;> simp [Kp, Cell.d, Pu]
def Ia : List Ln -> D
 | [] => .ns
 | _ :: s => .sl (.o (.o .h)) 0 (s.length + 1) s.length 3
def UU : List Ln -> Option C
 | [] => none
 | a :: s => some (.cells false ((IX (a :: s)).map fun d => Cell.o d s.length) (s.length + 1))
def pX : List Ln -> Pos
 | [] => .i .h
 | _ :: _ => .i (.o .h)
def Jc (B L : C) (A : List Ln) : T C := .n (.n (.n .e (UU A) .e) (some L) .e) (some B) .e
theorem Cb (A A' : List Ln) : (pX A).nat <= (pX (A ++ A')).nat := by
 cases A with
 | nil => cases A' <;> simp [pX, Pos.nat]
 | cons a A => simp [pX]
theorem yV (A : List Ln) : 3 <= (pX A).nat := by cases A <;> simp [pX, Pos.nat]
theorem CH (A : List Ln) : Kp (pX A).nat (Ia A) := by
 cases A <;> simp [Ia, pX, Kp, Pos.nat, Pu]
theorem CT {B L : C} (A : List Ln) (hB : ∀ m, KpC m B) (hL : ∀ m, KpC m L) : KpO (pX A).nat (Jc B L A) := by
 cases A with
 | nil =>
   show TAll (fun id c => id.nat < 3 /\ KpC 3 c) _
   unfold Jc UU
   exact TAll.some (TAll.some (TAll.none TAll.e TAll.e) ⟨by simp [Pos.nat], hL _⟩ TAll.e) ⟨by simp [Pos.nat], hB _⟩ TAll.e
 | cons a s =>
   show TAll (fun id c => id.nat < 5 /\ KpC 5 c) _
   unfold Jc UU
   exact TAll.some (TAll.some (TAll.some TAll.e ⟨by simp [Pos.nat], NK _ _ _ _⟩ TAll.e) ⟨by simp [Pos.nat], hL _⟩ TAll.e) ⟨by simp [Pos.nat], hB _⟩ TAll.e
theorem Cp (n coin box : Int) (ls : List Ln) (cs : List Ct) (l : Ln) (hn : 0 <= n /\ n <= 4) : PureF Try.prog p93.ix [.ag (CW n coin box ls cs), .ag (aM l)] (.lst 3 (aD aM (nW n l))) := by
 have hn0 : ((n.toNat : Nat) : Int) = n := by omega
 have h4 : n.toNat <= 4 := by omega
 obtain ⟨N, hN⟩ : ∃ N : Nat, N = n.toNat := ⟨_, rfl⟩
 have kpB := zS n coin box ls cs
 have kpL := NJ l
 refine PureF.run Uo (by simp) (by simp [aO, eB, Pu, CW, aM, aB, aE]) ?_; conv => whnf
 refine Qg ?_
 refine Rn.loop (fun i : Nat => ⟨(.n (.n (.n .e (some (.pt (.o .h) 0 0)) .e) none (.n .e (some (Ia (Bl n l i))) .e)) none (.n .e (some (.pt .h 0 0)) (.n .e (some (.i .i64 ((i : Int) + 1))) .e))), Jc (zQ n coin box ls cs) (KB l) (Bl n l i), pX (Bl n l i), none⟩) (fun i => i <= 2) (fun i => 2 - i) 0 ?_ ?_ ?_
 ·refine X.le.mk ?_ ?_ (Nat.le_refl _) rfl rfl
  ·exact gC
  ·exact Lw
 ·omega
 intro i hi
 have hi : i <= 2 := hi
 have hiA := Eq n l h4 i
 have TC : i = 2 -> Bl n l i = nW n l := fun e => by rw [e]; rfl
 have hiN : Bl n l (i + 1) = Bl n l i ++ gQ n l ((i : Int) + 1) n.toNat := rfl
 generalize hA : Bl n l i = A at *
 conv => whnf
 refine Qg ?_
 refine WB.dec (fun h => ?_) (fun h => ?_) <;> conv => whnf
 ·have hi2 : i < 2 := by omega
  refine Qg ?_
  refine Rn.loop (fun j : Nat => ⟨(.n (.n (.n (.n .e (some (.i .i64 (j : Int))) .e) (some (.pt (.o .h) 0 0)) .e) none (.n .e (some (Ia (A ++ gQ n l ((i : Int) + 1) j))) .e)) none (.n .e (some (.pt .h 0 0)) (.n .e (some (.i .i64 ((i : Int) + 1))) .e))), Jc (zQ n coin box ls cs) (KB l) (A ++ gQ n l ((i : Int) + 1) j), pX (A ++ gQ n l ((i : Int) + 1) j), none⟩) (fun j => j <= n.toNat) (fun j => n.toNat - j) 0 ?_ ?_ ?_
  ·have e0 : A ++ gQ n l ((i : Int) + 1) 0 = A := List.append_nil A
   simp only [e0]
   refine X.le.mk ?_ (T.le_refl _) (Nat.le_refl _) rfl rfl
   show T.le ((.n (.n (.n (.n .e (some (.i .i64 0)) .e) (some (.pt (.o .h) 0 0)) .e) none (.n .e (some (Ia A)) .e)) none (.n .e (some (.pt .h 0 0)) (.n .e (some (.i .i64 ((i : Int) + 1))) .e))) : T D) _
   exact gC
  ·exact Nat.zero_le _
  intro j hj
  have hj : j <= n.toNat := hj
  have hjA := yI n l ((i : Int) + 1) h4 j
  have hjE : j = n.toNat -> A ++ gQ n l ((i : Int) + 1) j = Bl n l (i + 1) := fun e => by rw [hiN, e]
  have hjN : A ++ gQ n l ((i : Int) + 1) (j + 1) = (A ++ gQ n l ((i : Int) + 1) j) ++ rA n l ((i : Int) + 1) (j : Int) n.toNat := by
   rw [List.append_assoc]; rfl
  have hBl : (A ++ gQ n l ((i : Int) + 1) j).length <= 1000 := by rw [List.length_append]; omega
  have hupj := Cb A (gQ n l ((i : Int) + 1) j)
  generalize hB : A ++ gQ n l ((i : Int) + 1) j = B at *
  conv => whnf
  refine Qg ?_
  refine WB.dec (fun h => ?_) (fun h => ?_) <;> conv => whnf
  ·have hjn : j < n.toNat := by omega
   refine Qg ?_
   refine Rn.loop (fun k : Nat => ⟨(.n (.n (.n (.n .e (some (.i .i64 (j : Int))) .e) (some (.pt (.o .h) 0 0)) .e) none (.n .e (some (Ia (B ++ rA n l ((i : Int) + 1) (j : Int) k))) .e)) none (.n (.n (.n .e (some (.i .i64 (k : Int))) .e) none .e) (some (.pt .h 0 0)) (.n .e (some (.i .i64 ((i : Int) + 1))) .e))), Jc (zQ n coin box ls cs) (KB l) (B ++ rA n l ((i : Int) + 1) (j : Int) k), pX (B ++ rA n l ((i : Int) + 1) (j : Int) k), none⟩) (fun k => k <= n.toNat) (fun k => n.toNat - k) 0 ?_ ?_ ?_
   ·have e0 : B ++ rA n l ((i : Int) + 1) (j : Int) 0 = B := List.append_nil B
    simp only [e0]
    refine X.le.mk ?_ (T.le_refl _) (Nat.le_refl _) rfl rfl
    show T.le ((.n (.n (.n (.n .e (some (.i .i64 (j : Int))) .e) (some (.pt (.o .h) 0 0)) .e) none (.n .e (some (Ia B)) .e)) none (.n (.n (.n .e (some (.i .i64 0)) .e) none .e) (some (.pt .h 0 0)) (.n .e (some (.i .i64 ((i : Int) + 1))) .e))) : T D) _
    exact gC
   ·exact Nat.zero_le _
   intro k hk
   have hk : k <= n.toNat := hk
   have hkA := yQ n l ((i : Int) + 1) (j : Int) k
   have hkE : k = n.toNat -> B ++ rA n l ((i : Int) + 1) (j : Int) k = A ++ gQ n l ((i : Int) + 1) (j + 1) := fun e => by rw [hjN, e]
   have hkN : B ++ rA n l ((i : Int) + 1) (j : Int) (k + 1) = (B ++ rA n l ((i : Int) + 1) (j : Int) k) ++ bif oI l ⟨(i : Int) + 1, (j : Int), (k : Int)⟩ then [⟨(i : Int) + 1, (j : Int), (k : Int)⟩] else [] := by
    rw [List.append_assoc]; rfl
   have hCl : (B ++ rA n l ((i : Int) + 1) (j : Int) k).length <= 1004 := by rw [List.length_append]; omega
   have hupk := Cb B (rA n l ((i : Int) + 1) (j : Int) k)
   generalize hC : B ++ rA n l ((i : Int) + 1) (j : Int) k = E at *
   have hupE := Cb E
   have hst : ∀ (E' : List Ln), B ++ rA n l ((i : Int) + 1) (j : Int) (k + 1) = E' -> (⟨(.n (.n (.n (.n .e (some (.i .i64 (j : Int))) .e) (some (.pt (.o .h) 0 0)) .e) none (.n .e (some (Ia (B ++ rA n l ((i : Int) + 1) (j : Int) (k + 1)))) .e)) none (.n (.n (.n .e (some (.i .i64 ((k + 1 : Nat) : Int))) .e) none .e) (some (.pt .h 0 0)) (.n .e (some (.i .i64 ((i : Int) + 1))) .e))), Jc (zQ n coin box ls cs) (KB l) (B ++ rA n l ((i : Int) + 1) (j : Int) (k + 1)), pX (B ++ rA n l ((i : Int) + 1) (j : Int) (k + 1)), none⟩ : X) = ⟨(.n (.n (.n (.n .e (some (.i .i64 (j : Int))) .e) (some (.pt (.o .h) 0 0)) .e) none (.n .e (some (Ia E')) .e)) none (.n (.n (.n .e (some (.i .i64 ((k + 1 : Nat) : Int))) .e) none .e) (some (.pt .h 0 0)) (.n .e (some (.i .i64 ((i : Int) + 1))) .e))), Jc (zQ n coin box ls cs) (KB l) E', pX E', none⟩ := fun E' h => by rw [h]
   have cA := IC l ⟨(i : Int) + 1, (j : Int), (k : Int)⟩
   conv => whnf
   refine Qg ?_
   refine WB.dec (fun h => ?_) (fun h => ?_) <;> conv => whnf
   ·have hkn : k < n.toNat := by omega
    cases hag : oI l ⟨(i : Int) + 1, (j : Int), (k : Int)⟩ with
    | true =>
      rw [hag, cond_true] at hkN
      rw [hag] at cA
      cases E with
      | nil =>
        repeat' ((first | refine Qz ?_ | refine Qf cA ?_) <;> conv => whnf)
        refine WSt.app_first (r := aM ⟨(i : Int) + 1, (j : Int), (k : Int)⟩) rfl (.inl rfl) rfl rfl rfl rfl ?_; conv => whnf
        refine Qg ?_
        refine Again.to (k + 1) (by omega) (by omega) ?_ ?_
        ·show (pX (B ++ rA n l ((i : Int) + 1) (j : Int) k)).nat <= (pX (B ++ rA n l ((i : Int) + 1) (j : Int) (k + 1))).nat
         rw [hC, hkN]; exact hupE _
        ·rw [hst _ hkN]
         refine Shr.of ?_ ?_ rfl rfl
         ·exact Rw
         ·(repeat' first | exact Rel.e | refine Rel.some ?_ ?_ ?_ | refine Rel.none ?_ ?_ | refine Rel.ee ?_ ?_)
          all_goals first
           | exact Ro (ShC.kp (kpB _))
           | exact Ro (ShC.kp (kpL _))
           | exact Ro (ShC.same (ShC.cn (.pu trivial) (ShC.cn (.pu trivial) (ShC.cn (.pu trivial) ShC.nl))))
      | cons a s =>
        repeat' ((first | refine Qz ?_ | refine Qf cA ?_) <;> conv => whnf)
        refine WSt.app_one (ds := IX (a :: s)) (r := aM ⟨(i : Int) + 1, (j : Int), (k : Int)⟩) rfl rfl rfl rfl rfl rfl (by rw [Jp]; rfl) rfl rfl (by simp at hCl; omega) rfl ?_; conv => whnf
        refine Qg ?_
        refine Again.to (k + 1) (by omega) (by omega) ?_ ?_
        ·show (pX (B ++ rA n l ((i : Int) + 1) (j : Int) k)).nat <= (pX (B ++ rA n l ((i : Int) + 1) (j : Int) (k + 1))).nat
         rw [hC, hkN]; exact hupE _
        ·rw [hst _ hkN]
         refine Shr.of ?_ ?_ rfl rfl
         ·show Rel _ _ ((.n (.n (.n (.n .e (some (.i .i64 (j : Int))) .e) (some (.pt (.o .h) 0 0)) .e) none (.n .e (some (.sl (.o (.o .h)) 0 ((s ++ [(⟨(i : Int) + 1, (j : Int), (k : Int)⟩ : Ln)]).length + 1) (s ++ [(⟨(i : Int) + 1, (j : Int), (k : Int)⟩ : Ln)]).length 3)) .e)) none (.n (.n (.n .e (some (.i .i64 ((k + 1 : Nat) : Int))) .e) none .e) (some (.pt .h 0 0)) (.n .e (some (.i .i64 ((i : Int) + 1))) .e))) : T D) _
          rw [List.length_append, List.length_singleton]
          exact Rw
         ·show Rel _ _ (T.n (.n (.n .e (some (.cells false ((IX ((a :: s) ++ [(⟨(i : Int) + 1, (j : Int), (k : Int)⟩ : Ln)])).map fun d => Cell.o d (s ++ [(⟨(i : Int) + 1, (j : Int), (k : Int)⟩ : Ln)]).length) ((s ++ [(⟨(i : Int) + 1, (j : Int), (k : Int)⟩ : Ln)]).length + 1))) .e) (some (KB l)) .e) (some (zQ n coin box ls cs)) .e : T C) _
          rw [List.length_append, List.length_singleton, Gb]
          (repeat' first | exact Rel.e | refine Rel.some ?_ ?_ ?_ | refine Rel.none ?_ ?_ | refine Rel.ee ?_ ?_)
          all_goals first
           | exact Ro (ShC.kp (kpB _))
           | exact Ro (ShC.kp (kpL _))
           | (refine Ro ?_
              refine ShC.grown (by omega) (aG.2 fun d hd => ?_)
              rcases List.mem_append.1 hd with hd | hd
              ·exact aG.1 (OH _) d hd
              ·simp only [aM, List.mem_cons, List.mem_nil_iff, or_false] at hd
               rcases hd with rfl | rfl | rfl <;> exact trivial)
    | false =>
      rw [hag, cond_false, List.append_nil] at hkN
      rw [hag] at cA
      repeat' ((first | refine Qz ?_ | refine Qf cA ?_) <;> conv => whnf)
      refine Again.to (k + 1) (by omega) (by omega) ?_ ?_
      ·show (pX (B ++ rA n l ((i : Int) + 1) (j : Int) k)).nat <= (pX (B ++ rA n l ((i : Int) + 1) (j : Int) (k + 1))).nat
       rw [hC, hkN]; exact Nat.le_refl _
      ·rw [hst _ hkN]
       refine Shr.kp2 ?_ ?_ (T.le_refl _) (CT E kpB kpL)
       ·exact gC
       ·have h3 := yV E
        show TAll (fun _ d => Kp (pX E).nat d) _
        repeat' first | exact TAll.e | refine TAll.some ?_ ?_ ?_ | refine TAll.none ?_ ?_
        all_goals first | exact CH E | (simp [Kp, Pu, Pos.nat]; done) | (simp [Kp, Pos.nat]; omega)
   ·have he := hkE (by omega)
    refine Qg ?_
    refine Again.to (j + 1) (by omega) (by omega) ?_ ?_
    ·show (pX (A ++ gQ n l ((i : Int) + 1) j)).nat <= (pX (A ++ gQ n l ((i : Int) + 1) (j + 1))).nat
     rw [hB, <- he]; exact hupk
    ·show Shr _ (⟨(.n (.n (.n (.n .e (some (.i .i64 ((j + 1 : Nat) : Int))) .e) (some (.pt (.o .h) 0 0)) .e) none (.n .e (some (Ia (A ++ gQ n l ((i : Int) + 1) (j + 1)))) .e)) none (.n .e (some (.pt .h 0 0)) (.n .e (some (.i .i64 ((i : Int) + 1))) .e))), Jc (zQ n coin box ls cs) (KB l) (A ++ gQ n l ((i : Int) + 1) (j + 1)), pX (A ++ gQ n l ((i : Int) + 1) (j + 1)), none⟩)
     rw [<- he]
     refine Shr.kp2 ?_ ?_ (T.le_refl _) (CT E kpB kpL)
     ·exact gC
     ·have h3 := yV E
      show TAll (fun _ d => Kp (pX E).nat d) _
      repeat' first | exact TAll.e | refine TAll.some ?_ ?_ ?_ | refine TAll.none ?_ ?_
      all_goals first | exact CH E | (simp [Kp, Pu, Pos.nat]; done) | (simp [Kp, Pos.nat]; omega)
  ·have he := hjE (by omega)
   refine Qg ?_
   refine Again.to (i + 1) (by omega) (by omega) ?_ ?_
   ·show (pX (Bl n l i)).nat <= (pX (Bl n l (i + 1))).nat
    rw [hA, <- he]; exact hupj
   ·show Shr _ (⟨(.n (.n (.n .e (some (.pt (.o .h) 0 0)) .e) none (.n .e (some (Ia (Bl n l (i + 1)))) .e)) none (.n .e (some (.pt .h 0 0)) (.n .e (some (.i .i64 (((i + 1 : Nat) : Int) + 1))) .e))), Jc (zQ n coin box ls cs) (KB l) (Bl n l (i + 1)), pX (Bl n l (i + 1)), none⟩)
    rw [<- he]
    refine Shr.kp2 ?_ ?_ (T.le_refl _) (CT B kpB kpL)
    ·exact gC
    ·have h3 := yV B
     show TAll (fun _ d => Kp (pX B).nat d) _
     repeat' first | exact TAll.e | refine TAll.some ?_ ?_ ?_ | refine TAll.none ?_ ?_
     all_goals first | exact CH B | (simp [Kp, Pu, Pos.nat]; done) | (simp [Kp, Pos.nat]; omega)
 ·refine Qg ?_
  have he := TC (by omega)
  subst he
  refine Fin.t (.inr rfl) rfl ?_
  cases hT : nW n l with
  | nil => exact .ns
  | cons a s =>
    exact Frz.whole (cs := (IX (a :: s)).map fun d => Cell.o d s.length) (cur := s.length + 1) rfl (by simp [aD]) (dN _) rfl (aB _)
theorem jJ {α : Type} {β : Type} (g : β -> α -> β) (b : β) {l : List α} {j : Nat} {d : α} (h : j < l.length) : (l.take (j + 1)).foldl g b = g ((l.take j).foldl g b) (l.getD j d) := by
 rw [aL (d := d) h, List.foldl_append]; rfl
theorem zU (n coin box : Int) (ls : List Ln) (cs : List Ct) (hn : 1 <= n /\ n <= 4) (hl : ls.length <= 1000) (hok : ls.all (cB n) = true) : PureF Try.prog p63.ix [.ag (CW n coin box ls cs)] (.i .i64 (eE n ls)) := by
 have e1 := aC aM ls
 refine PureF.run Uv (by simp) (by simp [aO, eB, Pu, CW, aB, aE]) ?_; conv => whnf
 refine Qg ?_
 refine Rn.loop (fun j : Nat => ⟨(.n (.n (.n .e (some (.i .i64 (eE n (ls.take j)))) .e) (some (.pt .h 0 0)) .e) none (.n (.n .e (some (.i .i64 (j : Int))) .e) none .e)), (.n .e (some (zQ n coin box ls cs)) .e), .o .h, none⟩) (fun j => j <= ls.length) (fun j => ls.length - j) 0 ?_ ?_ ?_
 ·refine X.le.mk ?_ ?_ (Nat.le_refl _) rfl rfl
  ·exact gC
  ·exact Lw
 ·exact Nat.zero_le _
 intro j hj
 have hj : j <= ls.length := hj
 have hmp := fD hn.1 hn.2 (ls.take j)
 conv => whnf
 refine Qg ?_
 refine WB.dec (fun h => ?_) (fun h => ?_) <;> conv => whnf
 ·have hlt : j < ls.length := by omega
  have hs : eE n (ls.take (j + 1)) = min 5000 (eE n (ls.take j) * jX n (ls.getD j default)) := jJ _ _ hlt
  have hlo := List.all_eq_true.1 hok _ (bV (d := default) hlt)
  have hrl := Av hn hlo
  have hrb := mD hn.1 hn.2 (ls.getD j default)
  have er := aC aM (nW n (ls.getD j default))
  have cR := Cp n coin box ls cs (ls.getD j default) (by omega)
  have hm1 : 1 <= eE n (ls.take j) /\ eE n (ls.take j) <= 5000 := by omega
  have hmul : 1 <= eE n (ls.take j) * jX n (ls.getD j default) /\ eE n (ls.take j) * jX n (ls.getD j default) <= 160000 := by
   have a1 := Int.mul_le_mul hm1.1 hrb.1 (by omega) (by omega)
   have a2 := Int.mul_le_mul hm1.2 hrb.2 (by omega) (by omega)
   omega
  have hmul2 : eE n (ls.take j) * ((aD aM (nW n (ls.getD j default))).length : Int) = eE n (ls.take j) * jX n (ls.getD j default) := by rw [er, hrl]
  repeat' ((first | refine Qz ?_ | refine Qf cR ?_) <;> conv => whnf)
  refine Again.to (j + 1) (by omega) (by omega) (Nat.le_refl _) ?_
  rw [hs]
  refine Shr.of ?_ ?_ rfl rfl
  ·(repeat' first | exact Rel.e | refine Rel.some ?_ ?_ ?_ | refine Rel.none ?_ ?_ | refine Rel.ee ?_ ?_)
   all_goals show Fz _ _ _ _
   all_goals first | exact Fy | (refine Fz.i ?_; rw [hmul2])
  ·(repeat' first | exact Rel.e | refine Rel.some ?_ ?_ ?_ | refine Rel.none ?_ ?_ | refine Rel.ee ?_ ?_)
   exact Ro (ShC.kp (zS _ _ _ _ _ _))
 ·refine Qg ?_
  exact Fin.i rfl (by rw [List.take_of_length_le (by omega)])
theorem kR {n coin box : Int} {ls : List Ln} {cs : List Ct} (hlim : ¬ (8 < ls.length \/ 4 < cs.length)) (hv : kU n coin box ls cs = false) : aS n coin box ls cs = 1 := by
 unfold aS
 rw [if_neg hlim, hv]; rfl
theorem OF {n coin box : Int} {ls : List Ln} {cs : List Ct} {j : Nat} (hj : j < ls.length) (h : cB n (ls.getD j default) = false) : kU n coin box ls cs = false := by
 have : ls.all (cB n) = false := by
  rw [List.all_eq_false]
  exact ⟨_, bV (d := default) hj, by rw [h]; simp⟩
 unfold kU
 rw [this]; simp
theorem NF {n coin box : Int} {ls : List Ln} {cs : List Ct} {j : Nat} (hj : j < cs.length) (h : rE ls.length (cs.getD j default) = false) : kU n coin box ls cs = false := by
 have : cs.all (rE ls.length) = false := by
  rw [List.all_eq_false]
  exact ⟨_, bV (d := default) hj, by rw [h]; simp⟩
 unfold kU
 rw [this]; simp
theorem DX (n coin box : Int) (ls : List Ln) (cs : List Ct) : PureF Try.prog p70.ix [.ag (CW n coin box ls cs)] (.i .i64 (aS n coin box ls cs)) := by
 have e1 := aC aM ls
 have e2 := aC dZ cs
 have kpB := zS n coin box ls cs
 refine PureF.run UF (by simp) (by simp [aO, eB, Pu, CW, aB, aE]) ?_; conv => whnf
 by_cases hlim : 8 < ls.length \/ 4 < cs.length
 ·have hf : aS n coin box ls cs = 3 := by unfold aS; rw [if_pos hlim]
  rw [hf]
  rcases hlim with hlim | hlim
  ·repeat' ((first | refine Qw ?_ | refine Qd (fun h => ?_) (fun h => ?_)) <;> conv => whnf)
   all_goals first | exact Fin.i rfl rfl | (exfalso; omega)
  ·by_cases h8 : 8 < ls.length
   ·repeat' ((first | refine Qw ?_ | refine Qd (fun h => ?_) (fun h => ?_)) <;> conv => whnf)
    all_goals first | exact Fin.i rfl rfl | (exfalso; omega)
   ·repeat' ((first | refine Qw ?_ | refine Qd (fun h => ?_) (fun h => ?_)) <;> conv => whnf)
    all_goals first | exact Fin.i rfl rfl | (exfalso; omega)
 have h8 : ¬ 8 < ls.length := fun h => hlim (.inl h)
 have h4 : ¬ 4 < cs.length := fun h => hlim (.inr h)
 cases b1 : gS n 1 4 with
 | false =>
   have c1 := nR n 1 4
   rw [b1] at c1
   have hf := kR (n := n) (coin := coin) (box := box) hlim (by unfold kU; rw [b1]; rfl)
   repeat' ((first | refine Qw ?_ | refine Qf c1 ?_ | refine Qd (fun h => ?_) (fun h => ?_)) <;> conv => whnf)
   all_goals first | exact Fin.i rfl hf.symm | (exfalso; omega)
 | true =>
 cases b2 : gS coin 1 99 with
 | false =>
   have c1 := nR n 1 4
   have c2 := nR coin 1 99
   rw [b1] at c1
   rw [b2] at c2
   have hf := kR (n := n) (coin := coin) (box := box) hlim (by unfold kU; rw [b1, b2]; rfl)
   repeat' ((first | refine Qw ?_ | refine Qf c1 ?_ | refine Qf c2 ?_ | refine Qd (fun h => ?_) (fun h => ?_)) <;> conv => whnf)
   all_goals first | exact Fin.i rfl hf.symm | (exfalso; omega)
 | true =>
 cases b3 : gS box 0 999 with
 | false =>
   have c1 := nR n 1 4
   have c2 := nR coin 1 99
   have c3 := nR box 0 999
   rw [b1] at c1
   rw [b2] at c2
   rw [b3] at c3
   have hf := kR (n := n) (coin := coin) (box := box) hlim (by unfold kU; rw [b1, b2, b3]; rfl)
   repeat' ((first | refine Qw ?_ | refine Qf c1 ?_ | refine Qf c2 ?_ | refine Qf c3 ?_ | refine Qd (fun h => ?_) (fun h => ?_)) <;> conv => whnf)
   all_goals first | exact Fin.i rfl hf.symm | (exfalso; omega)
 | true =>
 have c1 := nR n 1 4
 have c2 := nR coin 1 99
 have c3 := nR box 0 999
 rw [b1] at c1
 rw [b2] at c2
 rw [b3] at c3
 have hn := aP.1 b1
 repeat' ((first | refine Qw ?_ | refine Qf c1 ?_ | refine Qf c2 ?_ | refine Qf c3 ?_ | refine Qd (fun h => ?_) (fun h => ?_)) <;> conv => whnf)
 refine Rn.loop (fun j : Nat => ⟨(.n (.n (.n .e (some (.i .i64 (j : Int))) .e) (some (.pt .h 0 0)) .e) none .e), (.n .e (some (zQ n coin box ls cs)) .e), .o .h, none⟩) (fun j => j <= ls.length /\ (ls.take j).all (cB n) = true) (fun j => ls.length - j) 0 ?_ ?_ ?_
 ·refine X.le.mk ?_ ?_ (Nat.le_refl _) rfl rfl
  ·exact gC
  ·exact Lw
 ·exact ⟨Nat.zero_le _, rfl⟩
 rintro j ⟨hj, ha⟩
 conv => whnf
 refine Qg ?_
 refine WB.dec (fun h => ?_) (fun h => ?_) <;> conv => whnf
 ·have hlt : j < ls.length := by omega
  obtain ⟨x, hx⟩ : ∃ x, x = ls.getD j default := ⟨_, rfl⟩
  have d1 := nR x.k 0 2
  have d2 := nR x.c (-1) (n - 1)
  have d3 := nR x.t (-1) (n - 1)
  have hbad : cB n x = false -> aS n coin box ls cs = 1 := fun h => kR hlim (OF hlt (by rw [<- hx]; exact h))
  have hgood : cB n x = true -> (ls.take (j + 1)).all (cB n) = true := fun h => by
   rw [aL (d := default) hlt, List.all_append, ha, <- hx]
   simp [h]
  have hok : cB n x = (gS x.k 0 2 && (gS x.c (-1) (n - 1) && gS x.t (-1) (n - 1))) := rfl
  have hst : ∀ (sl : T D) (ob : T C) (nx : Pos), T.le ((.n (.n (.n .e (some (.i .i64 ((j + 1 : Nat) : Int))) .e) (some (.pt .h 0 0)) .e) none .e) : T D) sl -> T.le ((.n .e (some (zQ n coin box ls cs)) .e) : T C) ob -> Shr ⟨sl, ob, nx, none⟩ ⟨(.n (.n (.n .e (some (.i .i64 ((j + 1 : Nat) : Int))) .e) (some (.pt .h 0 0)) .e) none .e), (.n .e (some (zQ n coin box ls cs)) .e), .o .h, none⟩ := fun sl ob nx hs ho => by
   refine Shr.kp2 hs ?_ ho ?_
   ·show TAll (fun _ d => Kp 2 d) _
    repeat' first | exact TAll.e | refine TAll.some ?_ ?_ ?_ | refine TAll.none ?_ ?_
    all_goals simp [Kp, Pu, Pos.nat]
   ·show TAll (fun id c => id.nat < 2 /\ KpC 2 c) _
    exact TAll.some TAll.e ⟨by simp [Pos.nat], kpB _⟩ TAll.e
  rw [hx] at d1 d2 d3
  cases q1 : gS (ls.getD j default).k 0 2 with
  | false =>
    rw [q1] at d1
    have hf := hbad (by rw [hok, hx, q1]; rfl)
    repeat' ((first | refine Qw ?_ | refine Qf d1 ?_ | refine Qd (fun h => ?_) (fun h => ?_)) <;> conv => whnf)
    exact Fin.i rfl hf.symm
  | true =>
  cases q2 : gS (ls.getD j default).c (-1) (n - 1) with
  | false =>
    rw [q1] at d1
    rw [q2] at d2
    have hf := hbad (by rw [hok, hx, q1, q2]; rfl)
    repeat' ((first | refine Qw ?_ | refine Qf d1 ?_ | refine Qf d2 ?_ | refine Qd (fun h => ?_) (fun h => ?_)) <;> conv => whnf)
    exact Fin.i rfl hf.symm
  | true =>
  cases q3 : gS (ls.getD j default).t (-1) (n - 1) with
  | false =>
    rw [q1] at d1
    rw [q2] at d2
    rw [q3] at d3
    have hf := hbad (by rw [hok, hx, q1, q2, q3]; rfl)
    repeat' ((first | refine Qw ?_ | refine Qf d1 ?_ | refine Qf d2 ?_ | refine Qf d3 ?_ | refine Qd (fun h => ?_) (fun h => ?_)) <;> conv => whnf)
    exact Fin.i rfl hf.symm
  | true =>
    rw [q1] at d1
    rw [q2] at d2
    rw [q3] at d3
    have hg := hgood (by rw [hok, hx, q1, q2, q3]; rfl)
    repeat' ((first | refine Qw ?_ | refine Qf d1 ?_ | refine Qf d2 ?_ | refine Qf d3 ?_ | refine Qd (fun h => ?_) (fun h => ?_)) <;> conv => whnf)
    refine Again.to (j + 1) (by omega) ⟨by omega, hg⟩ (Nat.le_refl _) (hst _ _ _ ?_ ?_)
    ·exact gC
    ·exact Lw
 have hall : ls.all (cB n) = true := by rwa [List.take_of_length_le (by omega)] at ha
 refine Qg ?_
 refine Rn.loop (fun j : Nat => ⟨(.n (.n .e (some (.pt .h 0 0)) (.n .e (some (.i .i64 (j : Int))) .e)) none .e), (.n .e (some (zQ n coin box ls cs)) .e), .o .h, none⟩) (fun j => j <= cs.length /\ (cs.take j).all (rE ls.length) = true) (fun j => cs.length - j) 0 ?_ ?_ ?_
 ·refine X.le.mk ?_ ?_ (Nat.le_refl _) rfl rfl
  ·exact gC
  ·exact Lw
 ·exact ⟨Nat.zero_le _, rfl⟩
 rintro q ⟨hq, hb⟩
 conv => whnf
 refine Qg ?_
 refine WB.dec (fun h => ?_) (fun h => ?_) <;> conv => whnf
 ·have hlt : q < cs.length := by omega
  have d1 := nR (cs.getD q default).a 0 ((aD aM ls).length : Int)
  have hbad : rE ls.length (cs.getD q default) = false -> aS n coin box ls cs = 1 := fun h => kR hlim (NF hlt h)
  have hgood : rE ls.length (cs.getD q default) = true -> (cs.take (q + 1)).all (rE ls.length) = true := fun h => by
   rw [aL (d := default) hlt, List.all_append, hb, Bool.true_and, List.all_cons, List.all_nil, Bool.and_true]
   exact h
  have hok : rE ls.length (cs.getD q default) = (gS (cs.getD q default).a 0 ((aD aM ls).length : Int) && (decide (0 <= (cs.getD q default).lo) && (decide ((cs.getD q default).lo <= (cs.getD q default).hi) && decide ((cs.getD q default).hi <= 2000)))) := by rw [e1]; rfl
  have hst : ∀ (sl : T D) (ob : T C) (nx : Pos), T.le ((.n (.n .e (some (.pt .h 0 0)) (.n .e (some (.i .i64 ((q + 1 : Nat) : Int))) .e)) none .e) : T D) sl -> T.le ((.n .e (some (zQ n coin box ls cs)) .e) : T C) ob -> Shr ⟨sl, ob, nx, none⟩ ⟨(.n (.n .e (some (.pt .h 0 0)) (.n .e (some (.i .i64 ((q + 1 : Nat) : Int))) .e)) none .e), (.n .e (some (zQ n coin box ls cs)) .e), .o .h, none⟩ := fun sl ob nx hs ho => by
   refine Shr.kp2 hs ?_ ho ?_
   ·show TAll (fun _ d => Kp 2 d) _
    repeat' first | exact TAll.e | refine TAll.some ?_ ?_ ?_ | refine TAll.none ?_ ?_
    all_goals simp [Kp, Pu, Pos.nat]
   ·show TAll (fun id c => id.nat < 2 /\ KpC 2 c) _
    exact TAll.some TAll.e ⟨by simp [Pos.nat], kpB _⟩ TAll.e
  cases q1 : gS (cs.getD q default).a 0 ((aD aM ls).length : Int) with
  | false =>
    rw [q1] at d1
    have hf := hbad (by rw [hok, q1]; rfl)
    repeat' ((first | refine Qw ?_ | refine Qf d1 ?_ | refine Qd (fun h => ?_) (fun h => ?_)) <;> conv => whnf)
    exact Fin.i rfl hf.symm
  | true =>
  rw [q1] at d1
  rw [q1, Bool.true_and] at hok
  by_cases k1 : 0 <= (cs.getD q default).lo
  ·by_cases k2 : (cs.getD q default).lo <= (cs.getD q default).hi
   ·by_cases k3 : (cs.getD q default).hi <= 2000
    ·have hg := hgood (by rw [hok, decide_eq_true k1, decide_eq_true k2, decide_eq_true k3]; rfl)
     repeat' ((first | refine Qw ?_ | refine Qf d1 ?_ | refine Qd (fun h => ?_) (fun h => ?_)) <;> conv => whnf)
     refine Again.to (q + 1) (by omega) ⟨by omega, hg⟩ (Nat.le_refl _) (hst _ _ _ ?_ ?_)
     ·exact gC
     ·exact Lw
    ·have hf := hbad (by rw [hok, decide_eq_true k1, decide_eq_true k2, decide_eq_false k3]; rfl)
     repeat' ((first | refine Qw ?_ | refine Qf d1 ?_ | refine Qd (fun h => ?_) (fun h => ?_)) <;> conv => whnf)
     all_goals exact Fin.i rfl hf.symm
   ·have hf := hbad (by rw [hok, decide_eq_true k1, decide_eq_false k2]; rfl)
    repeat' ((first | refine Qw ?_ | refine Qf d1 ?_ | refine Qd (fun h => ?_) (fun h => ?_)) <;> conv => whnf)
    all_goals exact Fin.i rfl hf.symm
  ·have hf := hbad (by rw [hok, decide_eq_false k1]; rfl)
   repeat' ((first | refine Qw ?_ | refine Qf d1 ?_ | refine Qd (fun h => ?_) (fun h => ?_)) <;> conv => whnf)
   all_goals exact Fin.i rfl hf.symm
 have hallc : cs.all (rE ls.length) = true := by rwa [List.take_of_length_le (by omega)] at hb
 have cM := zU n coin box ls cs hn (by omega) hall
 have hf : aS n coin box ls cs = if 4096 < eE n ls then 3 else 0 := by
  unfold aS
  rw [if_neg hlim, if_pos (by unfold kU; rw [b1, b2, b3, hall, hallc]; rfl)]
 by_cases hm : 4096 < eE n ls
 ·rw [if_pos hm] at hf
  repeat' ((first | refine Qw ?_ | refine Qf cM ?_ | refine Qd (fun h => ?_) (fun h => ?_)) <;> conv => whnf)
  all_goals exact Fin.i rfl hf.symm
 ·rw [if_neg hm] at hf
  repeat' ((first | refine Qw ?_ | refine Qf cM ?_ | refine Qd (fun h => ?_) (fun h => ?_)) <;> conv => whnf)
  all_goals exact Fin.i rfl hf.symm
def BE (n coin box : Int) (ls : List Ln) (cs : List Ct) : Bool := decide (ls.length <= 10) && (decide (cs.length <= 6) && (!decide (aS n coin box ls cs = 0) || decide (eE n ls <= 100)))
theorem Pg (n coin box : Int) (ls : List Ln) (cs : List Ct) : PureF Try.prog p21.ix [.ag (CW n coin box ls cs)] (.b (BE n coin box ls cs)) := by
 have e1 := aC aM ls
 have e2 := aC dZ cs
 have cF := DX n coin box ls cs
 have ht : BE n coin box ls cs = (decide (ls.length <= 10) && (decide (cs.length <= 6) && (!decide (aS n coin box ls cs = 0) || decide (eE n ls <= 100)))) := rfl
 refine PureF.run TW (by simp) (by simp [aO, eB, Pu, CW, aB, aE]) ?_; conv => whnf
 by_cases h1 : ls.length <= 10
 ·by_cases h2 : cs.length <= 6
  ·rw [decide_eq_true h1, decide_eq_true h2, Bool.true_and, Bool.true_and] at ht
   rw [ht]
   by_cases hf : aS n coin box ls cs = 0
   ·obtain ⟨f1, f2, f3, f4⟩ := nI hf
    have f3' := f3
    unfold kU at f3'
    simp only [Bool.and_eq_true] at f3'
    have cM := zU n coin box ls cs (aP.1 f3'.1) (by omega) f3'.2.2.2.1
    rw [hf] at cF ⊢
    by_cases hm : eE n ls <= 100
    ·repeat' ((first | refine Qw ?_ | refine Qf cF ?_ | refine Qf cM ?_ | refine Qd (fun h => ?_) (fun h => ?_)) <;> conv => whnf)
     all_goals exact Fin.b rfl (by simp [hm])
    ·repeat' ((first | refine Qw ?_ | refine Qf cF ?_ | refine Qf cM ?_ | refine Qd (fun h => ?_) (fun h => ?_)) <;> conv => whnf)
     all_goals exact Fin.b rfl (by simp [hm])
   ·repeat' ((first | refine Qw ?_ | refine Qf cF ?_ | refine Qd (fun h => ?_) (fun h => ?_)) <;> conv => whnf)
    all_goals exact Fin.b rfl (by simp [hf])
  ·rw [decide_eq_false h2, Bool.false_and, Bool.and_false] at ht
   rw [ht]
   repeat' ((first | refine Qw ?_ | refine Qf cF ?_ | refine Qd (fun h => ?_) (fun h => ?_)) <;> conv => whnf)
   all_goals exact Fin.b rfl (by first | rfl | (exact decide_eq_false (by omega)))
 ·rw [decide_eq_false h1, Bool.false_and] at ht
  rw [ht]
  repeat' ((first | refine Qw ?_ | refine Qf cF ?_ | refine Qd (fun h => ?_) (fun h => ?_)) <;> conv => whnf)
  all_goals exact Fin.b rfl (by first | rfl | (exact decide_eq_false (by omega)))
theorem WB.fF {t : Bool} {F : Bool -> Prop} (h : t = false) (k : F false) : WB t F := ⟨fun e => (by rw [h] at e; cases e), fun _ => k⟩
theorem WB.fT {t : Bool} {F : Bool -> Prop} (h : t = true) (k : F true) : WB t F := ⟨fun _ => k, fun e => (by rw [h] at e; cases e)⟩
theorem uQ (Tr : List Ln) (m : Nat) (c : Int) (hT : Tr.length <= 1000) (hm : m <= Tr.length) : PureF Try.prog p57.ix [.lst 3 (aD aM Tr), .i .i64 (m : Int), .i .i64 c] (.i .i64 (bK Tr c m)) := by
 have e1 := aC aM Tr
 refine PureF.run Vs (by simp) (by simp [aO, eB, Pu, aB]) ?_; conv => whnf
 refine Qg ?_
 refine Rn.loop (fun j : Nat => ⟨(.n (.n (.n (.n .e (some (.i .i64 (bK Tr c j))) .e) none .e) (some (.i .i64 (m : Int))) .e) (some (.lst 3 (aD aM Tr))) (.n (.n (.n .e (some (.i .i64 (j : Int))) .e) none .e) (some (.i .i64 c)) .e)), .e, .h, none⟩) (fun j => j <= m) (fun j => m - j) 0 ?_ ?_ ?_
 ·(first | (refine X.le.mk ?_ ?_ (Nat.le_refl _) rfl rfl) | skip) <;> (repeat' first | exact T.le_e _ | refine T.le_some ?_ ?_ ?_ | refine T.le_none ?_ ?_ | rfl)
 ·exact Nat.zero_le _
 intro j hj
 have hj : j <= m := hj
 have hs : bK Tr c (j + 1) = if (Tr.getD j default).c = c then (if (Tr.getD j default).k = 1 then (j : Int) else -1) else bK Tr c j := rfl
 conv => whnf
 refine Qg ?_
 refine WB.dec (fun h => ?_) (fun h => ?_) <;> conv => whnf
 ·have hlt : j < Tr.length := by omega
  by_cases h1 : (Tr.getD j default).c = c
  ·rw [if_pos h1] at hs
   by_cases h2 : (Tr.getD j default).k = 1
   ·rw [if_pos h2] at hs
    repeat' ((first | refine Qw ?_ | refine Qd (fun h => ?_) (fun h => ?_)) <;> conv => whnf)
    refine Again.to (j + 1) (by omega) (by omega) (Nat.le_refl _) ?_
    rw [hs]
    (refine Shr.of ?_ ?_ rfl rfl) <;> (repeat' first | exact Rel.e | refine Rel.some ?_ ?_ ?_ | refine Rel.none ?_ ?_) <;> (try first | exact Fx | (refine Ro (ShC.same ?_); (repeat' first | exact ShC.nl | refine ShC.cn ?_ ?_) <;> exact Fx))
    all_goals exact Fz.pu (aB _)
   ·rw [if_neg h2] at hs
    repeat' ((first | refine Qw ?_ | refine Qd (fun h => ?_) (fun h => ?_)) <;> conv => whnf)
    refine Again.to (j + 1) (by omega) (by omega) (Nat.le_refl _) ?_
    rw [hs]
    (refine Shr.of ?_ ?_ rfl rfl) <;> (repeat' first | exact Rel.e | refine Rel.some ?_ ?_ ?_ | refine Rel.none ?_ ?_) <;> (try first | exact Fx | (refine Ro (ShC.same ?_); (repeat' first | exact ShC.nl | refine ShC.cn ?_ ?_) <;> exact Fx))
    all_goals exact Fz.pu (aB _)
  ·rw [if_neg h1] at hs
   repeat' ((first | refine Qw ?_ | refine Qd (fun h => ?_) (fun h => ?_)) <;> conv => whnf)
   refine Again.to (j + 1) (by omega) (by omega) (Nat.le_refl _) ?_
   rw [hs]
   (refine Shr.of ?_ ?_ rfl rfl) <;> (repeat' first | exact Rel.e | refine Rel.some ?_ ?_ ?_ | refine Rel.none ?_ ?_) <;> (try first | exact Fx | (refine Ro (ShC.same ?_); (repeat' first | exact ShC.nl | refine ShC.cn ?_ ?_) <;> exact Fx))
   all_goals exact Fz.pu (aB _)
 ·refine Qg ?_
  exact Fin.i rfl (by rw [show m = j by omega])
theorem CI (Tr : List Ln) (m : Nat) (c : Int) (hT : Tr.length <= 1000) (hm : m <= Tr.length) : PureF Try.prog p58.ix [.lst 3 (aD aM Tr), .i .i64 (m : Int), .i .i64 c] (.i .i64 (bY Tr c m)) := by
 have e1 := aC aM Tr
 refine PureF.run UR (by simp) (by simp [aO, eB, Pu, aB]) ?_; conv => whnf
 refine Qg ?_
 refine Rn.loop (fun j : Nat => ⟨(.n (.n (.n (.n .e (some (.i .i64 (bY Tr c j))) .e) none .e) (some (.i .i64 (m : Int))) .e) (some (.lst 3 (aD aM Tr))) (.n (.n (.n .e (some (.i .i64 (j : Int))) .e) none .e) (some (.i .i64 c)) .e)), .e, .h, none⟩) (fun j => j <= m) (fun j => m - j) 0 ?_ ?_ ?_
 ·(first | (refine X.le.mk ?_ ?_ (Nat.le_refl _) rfl rfl) | skip) <;> (repeat' first | exact T.le_e _ | refine T.le_some ?_ ?_ ?_ | refine T.le_none ?_ ?_ | rfl)
 ·exact Nat.zero_le _
 intro j hj
 have hj : j <= m := hj
 have hs : bY Tr c (j + 1) = if (Tr.getD j default).t = c then (if (Tr.getD j default).k = 1 then (j : Int) else -1) else bY Tr c j := rfl
 conv => whnf
 refine Qg ?_
 refine WB.dec (fun h => ?_) (fun h => ?_) <;> conv => whnf
 ·have hlt : j < Tr.length := by omega
  by_cases h1 : (Tr.getD j default).t = c
  ·rw [if_pos h1] at hs
   by_cases h2 : (Tr.getD j default).k = 1
   ·rw [if_pos h2] at hs
    repeat' ((first | refine Qw ?_ | refine Qd (fun h => ?_) (fun h => ?_)) <;> conv => whnf)
    refine Again.to (j + 1) (by omega) (by omega) (Nat.le_refl _) ?_
    rw [hs]
    (refine Shr.of ?_ ?_ rfl rfl) <;> (repeat' first | exact Rel.e | refine Rel.some ?_ ?_ ?_ | refine Rel.none ?_ ?_) <;> (try first | exact Fx | (refine Ro (ShC.same ?_); (repeat' first | exact ShC.nl | refine ShC.cn ?_ ?_) <;> exact Fx))
    all_goals exact Fz.pu (aB _)
   ·rw [if_neg h2] at hs
    repeat' ((first | refine Qw ?_ | refine Qd (fun h => ?_) (fun h => ?_)) <;> conv => whnf)
    refine Again.to (j + 1) (by omega) (by omega) (Nat.le_refl _) ?_
    rw [hs]
    (refine Shr.of ?_ ?_ rfl rfl) <;> (repeat' first | exact Rel.e | refine Rel.some ?_ ?_ ?_ | refine Rel.none ?_ ?_) <;> (try first | exact Fx | (refine Ro (ShC.same ?_); (repeat' first | exact ShC.nl | refine ShC.cn ?_ ?_) <;> exact Fx))
    all_goals exact Fz.pu (aB _)
  ·rw [if_neg h1] at hs
   repeat' ((first | refine Qw ?_ | refine Qd (fun h => ?_) (fun h => ?_)) <;> conv => whnf)
   refine Again.to (j + 1) (by omega) (by omega) (Nat.le_refl _) ?_
   rw [hs]
   (refine Shr.of ?_ ?_ rfl rfl) <;> (repeat' first | exact Rel.e | refine Rel.some ?_ ?_ ?_ | refine Rel.none ?_ ?_) <;> (try first | exact Fx | (refine Ro (ShC.same ?_); (repeat' first | exact ShC.nl | refine ShC.cn ?_ ?_) <;> exact Fx))
   all_goals exact Fz.pu (aB _)
 ·refine Qg ?_
  exact Fin.i rfl (by rw [show m = j by omega])
theorem pH (Tr : List Ln) (hT : Tr.length <= 1000) : PureF Try.prog p31.ix [.lst 3 (aD aM Tr)] (.b (eG Tr)) := by
 have e1 := aC aM Tr
 refine PureF.run UJ (by simp) (by simp [aO, eB, Pu, aB]) ?_; conv => whnf
 refine Qg ?_
 refine Rn.loop (fun j : Nat => ⟨(.n (.n (.n .e (some (.i .i64 (j : Int))) .e) none .e) (some (.lst 3 (aD aM Tr))) .e), .e, .h, none⟩) (fun j => j <= Tr.length /\ (List.range j).all (dV Tr) = true) (fun j => Tr.length - j) 0 ?_ ?_ ?_
 ·(first | (refine X.le.mk ?_ ?_ (Nat.le_refl _) rfl rfl) | skip) <;> (repeat' first | exact T.le_e _ | refine T.le_some ?_ ?_ ?_ | refine T.le_none ?_ ?_ | rfl)
 ·exact ⟨Nat.zero_le _, rfl⟩
 rintro j ⟨hj, ha⟩
 conv => whnf
 refine Qg ?_
 refine WB.dec (fun h => ?_) (fun h => ?_) <;> conv => whnf
 ·have hlt : j < Tr.length := by omega
  have c1 := uQ Tr j (Tr.getD j default).c hT hj
  have c2 := CI Tr j (Tr.getD j default).t hT hj
  have hbad : dV Tr j = false -> eG Tr = false := fun h => sR hlt h
  have hok : dV Tr j = ((decide (0 <= bK Tr (Tr.getD j default).c j) == decide ((Tr.getD j default).k = 2)) && (decide (0 <= bY Tr (Tr.getD j default).t j) == decide ((Tr.getD j default).k = 2))) := rfl
  repeat' ((first | refine Qw ?_ | refine Qf c1 ?_ | refine Qf c2 ?_) <;> conv => whnf)
  cases hA : (decide (0 <= bK Tr (Tr.getD j default).c j) == decide ((Tr.getD j default).k = 2)) with
  | false =>
    refine WB.fT rfl ?_; conv => whnf
    repeat' ((first | refine Qw ?_) <;> conv => whnf)
    exact Fin.b rfl (by rw [hbad (by rw [hok, hA]; rfl)])
  | true =>
  refine WB.fF rfl ?_; conv => whnf
  repeat' ((first | refine Qw ?_) <;> conv => whnf)
  cases hB : (decide (0 <= bY Tr (Tr.getD j default).t j) == decide ((Tr.getD j default).k = 2)) with
  | false =>
    refine WB.fT rfl ?_; conv => whnf
    repeat' ((first | refine Qw ?_) <;> conv => whnf)
    exact Fin.b rfl (by rw [hbad (by rw [hok, hA, hB]; rfl)])
  | true =>
  refine WB.fF rfl ?_; conv => whnf
  repeat' ((first | refine Qw ?_) <;> conv => whnf)
  refine Again.to (j + 1) (by omega) ⟨by omega, tO ha (by rw [hok, hA, hB]; rfl)⟩ (Nat.le_refl _) ?_
  (refine Shr.of ?_ ?_ rfl rfl) <;> (repeat' first | exact Rel.e | refine Rel.some ?_ ?_ ?_ | refine Rel.none ?_ ?_) <;> (try first | exact Fx | (refine Ro (ShC.same ?_); (repeat' first | exact ShC.nl | refine ShC.cn ?_ ?_) <;> exact Fx))
  all_goals exact Fz.pu (aB _)
 ·refine Qg ?_
  exact Fin.b rfl (by unfold eG; rw [show Tr.length = j by omega, ha])
theorem KS (n coin box : Int) (ls : List Ln) (cs : List Ct) (Tr : List Ln) (m : Nat) (hb : 0 <= box /\ box <= 999) (hc : 1 <= coin /\ coin <= 99) (hT : Tr.length <= 1000) (hm : m <= Tr.length) : PureF Try.prog p33.ix [.ag (CW n coin box ls cs), .lst 3 (aD aM Tr), .i .i64 (m : Int)] (.i .i64 (bZ box coin Tr m)) := by
 have e1 := aC aM Tr
 refine PureF.run Ve (by simp) (by simp [aO, eB, Pu, CW, aB, aE]) ?_; conv => whnf
 refine Qg ?_
 refine Rn.loop (fun j : Nat => ⟨(.n (.n (.n (.n .e (some (.i .i64 (bZ box coin Tr j))) .e) (some (.pt .h 0 0)) .e) (some (.lst 3 (aD aM Tr))) .e) none (.n (.n (.n .e (some (.i .i64 (j : Int))) .e) none .e) (some (.i .i64 (m : Int))) .e)), (.n .e (some (zQ n coin box ls cs)) .e), .o .h, none⟩) (fun j => j <= m) (fun j => m - j) 0 ?_ ?_ ?_
 ·refine X.le.mk ?_ ?_ (Nat.le_refl _) rfl rfl
  ·exact gC
  ·exact Lw
 ·exact Nat.zero_le _
 intro j hj
 have hj : j <= m := hj
 have hs : bZ box coin Tr (j + 1) = if (Tr.getD j default).k = 1 then bZ box coin Tr j + coin else bZ box coin Tr j - coin := rfl
 have hbd := qR (T := Tr) hb hc j
 have hst : ∀ (v : Int) (sl : T D) (ob : T C) (nx : Pos), v = bZ box coin Tr (j + 1) -> T.le ((.n (.n (.n (.n .e (some (.i .i64 v)) .e) (some (.pt .h 0 0)) .e) (some (.lst 3 (aD aM Tr))) .e) none (.n (.n (.n .e (some (.i .i64 ((j + 1 : Nat) : Int))) .e) none .e) (some (.i .i64 (m : Int))) .e)) : T D) sl -> T.le ((.n .e (some (zQ n coin box ls cs)) .e) : T C) ob -> Shr ⟨sl, ob, nx, none⟩ ⟨(.n (.n (.n (.n .e (some (.i .i64 (bZ box coin Tr (j + 1)))) .e) (some (.pt .h 0 0)) .e) (some (.lst 3 (aD aM Tr))) .e) none (.n (.n (.n .e (some (.i .i64 ((j + 1 : Nat) : Int))) .e) none .e) (some (.i .i64 (m : Int))) .e)), (.n .e (some (zQ n coin box ls cs)) .e), .o .h, none⟩ := fun v sl ob nx hv hs ho => by
  subst hv
  refine Shr.kp2 hs ?_ ho ?_
  ·show TAll (fun _ d => Kp 2 d) _
   repeat' first | exact TAll.e | refine TAll.some ?_ ?_ ?_ | refine TAll.none ?_ ?_
   all_goals simp [Kp, Pu, aB, Pos.nat]
  ·show TAll (fun id c => id.nat < 2 /\ KpC 2 c) _
   exact TAll.some TAll.e ⟨by simp [Pos.nat], zS _ _ _ _ _ _⟩ TAll.e
 conv => whnf
 refine Qg ?_
 refine WB.dec (fun h => ?_) (fun h => ?_) <;> conv => whnf
 ·have hlt : j < Tr.length := by omega
  by_cases h1 : (Tr.getD j default).k = 1
  ·rw [if_pos h1] at hs
   repeat' ((first | refine Qw ?_ | refine Qd (fun h => ?_) (fun h => ?_)) <;> conv => whnf)
   refine Again.to (j + 1) (by omega) (by omega) (Nat.le_refl _) (hst _ _ _ _ hs.symm ?_ ?_)
   ·exact gC
   ·exact Lw
  ·rw [if_neg h1] at hs
   repeat' ((first | refine Qw ?_ | refine Qd (fun h => ?_) (fun h => ?_)) <;> conv => whnf)
   refine Again.to (j + 1) (by omega) (by omega) (Nat.le_refl _) (hst _ _ _ _ hs.symm ?_ ?_)
   ·exact gC
   ·exact Lw
 ·refine Qg ?_
  exact Fin.i rfl (by rw [show m = j by omega])
def vL (n coin box : Int) (ls : List Ln) (cs : List Ct) (Tr : List Ln) : Bool := jE n ls Tr && (eG Tr && yG box coin cs Tr)
theorem Bo (a b x : Int) : PureF Try.prog p112.ix [.ag [.i .i64 a, .i .i64 b], .i .i64 x] (.b (gS x a b)) := by
 refine PureF.run Sf (by simp) (by simp [aO, eB, Pu, aJ, aB, aE]) ?_; conv => whnf
 repeat' ((first | refine Qw ?_ | refine Qd (fun h => ?_) (fun h => ?_)) <;> conv => whnf)
 all_goals exact Fin.b rfl (by unfold gS; first | rfl | (symm; apply decide_eq_true; omega) | (symm; apply decide_eq_false; omega) | (simp_all; done) | (simp_all; omega))
theorem yZ (x m : Int) : PureF Try.prog p86.ix [.i .i64 x, .i .i64 m] (.b (gS x 0 m)) := by
 refine PureF.run UB (by simp) (by simp [aO, eB, Pu, aJ, aB, aE]) ?_; conv => whnf
 repeat' ((first | refine Qz ?_ | refine Qf (Bo _ _ _) ?_) <;> conv => whnf)
 exact Fin.b rfl rfl
theorem LC (l : List Ln) (f : Pos) (first caps : List D) (p : Ln -> Bool) (h1 : aO first) (h2 : aO caps) (hl : l.length <= 1000) (hf : ∀ c ∈ l, PureF Try.prog f.ix (first ++ ([.ag [.i .i64 c.k, .i .i64 c.c, .i .i64 c.t]] ++ caps)) (.b (p c))) : PureF Try.prog p113.ix [.lst 3 (aD aM l), .fn f first caps] (.b (l.all p)) := by
 have e1 := aC aM l
 refine PureF.run SG (by simp) (by simp [aO, eB, Pu, aJ, aB, h1, h2]) ?_; conv => whnf
 refine Qg ?_
 refine Rn.loop (fun j : Nat => ⟨(.n (.n (.n (.n .e (some (.lst 3 (aD aM l))) .e) none .e) (some (.fn f first caps)) (.n (.n .e (some (.i .i64 (j : Int))) .e) none .e)) none (.n (.n (.n .e (some (.i .i64 ((aD aM l).length : Int))) .e) none .e) none .e)), .e, .h, none⟩) (fun j => j <= l.length /\ (l.take j).all p = true) (fun j => l.length - j) 0 ?_ ?_ ?_
 ·(first | (refine X.le.mk ?_ ?_ (Nat.le_refl _) rfl rfl) | skip) <;> (repeat' first | exact T.le_e _ | refine T.le_some ?_ ?_ ?_ | refine T.le_none ?_ ?_ | rfl)
 ·exact ⟨by omega, by simp⟩
 rintro j ⟨hj, ha⟩
 conv => whnf
 refine Qg ?_
 refine WB.dec (fun h => ?_) (fun h => ?_) <;> conv => whnf
 ·have hlt : j < l.length := by omega
  repeat' ((first | refine Qz ?_ | refine Qf (hf _ (bV hlt)) ?_) <;> conv => whnf)
  refine WB.mk (fun h => ?_) (fun h => ?_) <;> conv => whnf
  ·refine Qg ?_
   exact Fin.b rfl (by rw [wC (d := default) hlt (by simpa using h)])
  ·refine Qg ?_
   refine Again.to (j + 1) (by omega) ⟨by omega, oE (d := default) hlt ha (by simpa using h)⟩ (Nat.le_refl _) ?_
   (refine Shr.of ?_ ?_ rfl rfl) <;> (repeat' first | exact Rel.e | refine Rel.some ?_ ?_ ?_ | refine Rel.none ?_ ?_) <;> (try first | exact Fx | (refine Ro (ShC.same ?_); (repeat' first | exact ShC.nl | refine ShC.cn ?_ ?_) <;> exact Fx))
   all_goals (refine Fz.pu ?_; simp [Pu, h1, h2])
 ·refine Qg ?_
  exact Fin.b rfl (by rw [EC (by omega) ha])
theorem Dz (l : List Ct) (f : Pos) (first caps : List D) (p : Ct -> Bool) (h1 : aO first) (h2 : aO caps) (hl : l.length <= 1000) (hf : ∀ c ∈ l, PureF Try.prog f.ix (first ++ ([.ag [.i .i64 c.a, .i .i64 c.lo, .i .i64 c.hi]] ++ caps)) (.b (p c))) : PureF Try.prog p110.ix [.lst 3 (aD dZ l), .fn f first caps] (.b (l.all p)) := by
 have e1 := aC dZ l
 refine PureF.run RE (by simp) (by simp [aO, eB, Pu, aJ, aE, h1, h2]) ?_; conv => whnf
 refine Qg ?_
 refine Rn.loop (fun j : Nat => ⟨(.n (.n (.n (.n .e (some (.lst 3 (aD dZ l))) .e) none .e) (some (.fn f first caps)) (.n (.n .e (some (.i .i64 (j : Int))) .e) none .e)) none (.n (.n (.n .e (some (.i .i64 ((aD dZ l).length : Int))) .e) none .e) none .e)), .e, .h, none⟩) (fun j => j <= l.length /\ (l.take j).all p = true) (fun j => l.length - j) 0 ?_ ?_ ?_
 ·(first | (refine X.le.mk ?_ ?_ (Nat.le_refl _) rfl rfl) | skip) <;> (repeat' first | exact T.le_e _ | refine T.le_some ?_ ?_ ?_ | refine T.le_none ?_ ?_ | rfl)
 ·exact ⟨by omega, by simp⟩
 rintro j ⟨hj, ha⟩
 conv => whnf
 refine Qg ?_
 refine WB.dec (fun h => ?_) (fun h => ?_) <;> conv => whnf
 ·have hlt : j < l.length := by omega
  repeat' ((first | refine Qz ?_ | refine Qf (hf _ (bV hlt)) ?_) <;> conv => whnf)
  refine WB.mk (fun h => ?_) (fun h => ?_) <;> conv => whnf
  ·refine Qg ?_
   exact Fin.b rfl (by rw [wC (d := default) hlt (by simpa using h)])
  ·refine Qg ?_
   refine Again.to (j + 1) (by omega) ⟨by omega, oE (d := default) hlt ha (by simpa using h)⟩ (Nat.le_refl _) ?_
   (refine Shr.of ?_ ?_ rfl rfl) <;> (repeat' first | exact Rel.e | refine Rel.some ?_ ?_ ?_ | refine Rel.none ?_ ?_) <;> (try first | exact Fx | (refine Ro (ShC.same ?_); (repeat' first | exact ShC.nl | refine ShC.cn ?_ ?_) <;> exact Fx))
   all_goals (refine Fz.pu ?_; simp [Pu, h1, h2])
 ·refine Qg ?_
  exact Fin.b rfl (by rw [EC (by omega) ha])
def jI (n coin box : Int) (ls : List Ln) (cs : List Ct) : List D := [.i .i64 n, .i .i64 coin, .i .i64 box, .lst 3 (aD aM ls), .lst 3 (aD dZ cs), .any]
theorem jV (n coin box : Int) (ls : List Ln) (cs : List Ct) : aO (jI n coin box ls cs) := by simp [jI, aO, Pu, aB, aE]
theorem pZ (n coin box : Int) (ls : List Ln) (cs : List Ct) : PureF Try.prog p75.ix [.ag [.i .i64 n, .i .i64 coin, .i .i64 box, .lst 3 (aD aM ls), .lst 3 (aD dZ cs)]] (.ag [.i .i64 n, .i .i64 coin, .i .i64 box, .lst 3 (aD aM ls), .lst 3 (aD dZ cs), .any]) := by
 refine PureF.run Tw (by simp) (by simp [aO, eB, Pu, aJ, aB, aE]) ?_; conv => whnf
 refine Qg ?_
 exact ⟨.inr rfl, _, rfl, .ag (.cons (.pu trivial) (.cons (.pu trivial) (.cons (.pu trivial) (.cons (.pu (aB _)) (.cons (.pu (aE _)) (.cons .any .nil))))))⟩
theorem AV (n coin box : Int) (ls : List Ln) (cs : List Ct) (hn : 1 <= n /\ n <= 4) (l : Ln) : PureF Try.prog p114.ix [.ag [.i .i64 n, .i .i64 coin, .i .i64 box, .lst 3 (aD aM ls), .lst 3 (aD dZ cs), .any], .ag [.i .i64 l.k, .i .i64 l.c, .i .i64 l.t]] (.b (cB n l)) := by
 refine PureF.run Sk (by simp) (by simp [aO, eB, Pu, aJ, aB, aE]) ?_; conv => whnf
 repeat' ((first | refine Qz ?_ | refine Qf (Bo _ _ _) ?_ | with_reducible refine WB.dec (fun h => ?_) (fun h => ?_) | with_reducible refine WB.ndec (fun h => ?_) (fun h => ?_) | refine WB.mk (fun h => ?_) (fun h => ?_)) <;> conv => whnf)
 all_goals exact Fin.b rfl (by unfold cB; simp_all)
theorem yL (n coin box : Int) (ls : List Ln) (cs : List Ct) (c : Ct) : PureF Try.prog p115.ix [.ag [.i .i64 n, .i .i64 coin, .i .i64 box, .lst 3 (aD aM ls), .lst 3 (aD dZ cs), .any], .ag [.i .i64 c.a, .i .i64 c.lo, .i .i64 c.hi]] (.b (rE ls.length c)) := by
 have e1 := aC aM ls
 refine PureF.run SH (by simp) (by simp [aO, eB, Pu, aJ, aB, aE]) ?_; conv => whnf
 repeat' ((first | refine Qz ?_ | refine Qf (yZ _ _) ?_ | with_reducible refine WB.dec (fun h => ?_) (fun h => ?_) | with_reducible refine WB.ndec (fun h => ?_) (fun h => ?_) | refine WB.mk (fun h => ?_) (fun h => ?_)) <;> conv => whnf)
 all_goals exact Fin.b rfl (by
  rw [e1] at *
  unfold rE
  first | (simp_all [gS]; done) | (simp_all [gS]; omega) | (simp_all [gS]; intros; omega))
theorem xE (n coin box : Int) (ls : List Ln) (cs : List Ct) (hl : ls.length <= 1000) (hc : cs.length <= 1000) : PureF Try.prog p81.ix [.ag [.i .i64 n, .i .i64 coin, .i .i64 box, .lst 3 (aD aM ls), .lst 3 (aD dZ cs), .any]] (.b (kU n coin box ls cs)) := by
 refine PureF.run TL (by simp) (by simp [aO, eB, Pu, aJ, aB, aE]) ?_; conv => whnf
 repeat' ((first | refine Qz ?_ | refine Qf (Bo _ _ _) ?_ | refine Qf (yZ _ _) ?_ | refine Qf (LC ls p114 [.ag [.i .i64 n, .i .i64 coin, .i .i64 box, .lst 3 (aD aM ls), .lst 3 (aD dZ cs), .any]] [] (cB n) (by simp [aO, Pu, aB, aE]) trivial hl (fun c _ => AV n coin box ls cs (aP.1 (by assumption)) c)) ?_ | refine Qf (Dz cs p115 [.ag [.i .i64 n, .i .i64 coin, .i .i64 box, .lst 3 (aD aM ls), .lst 3 (aD dZ cs), .any]] [] (rE ls.length) (by simp [aO, Pu, aB, aE]) trivial hc (fun c _ => yL n coin box ls cs c)) ?_ | with_reducible refine WB.dec (fun h => ?_) (fun h => ?_) | with_reducible refine WB.ndec (fun h => ?_) (fun h => ?_) | refine WB.mk (fun h => ?_) (fun h => ?_)) <;> conv => whnf)
 all_goals exact Fin.b rfl (by unfold kU; first | (simp_all; done) | (simp_all; intro hf; obtain ⟨x, hx, hn⟩ := h; rw [hf x hx] at hn; cases hn))
end Go.Ev
end
