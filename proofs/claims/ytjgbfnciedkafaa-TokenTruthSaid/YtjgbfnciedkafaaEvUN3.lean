import Derived.Test.YtjgbfnciedkafaaEvUJs
import Derived.Test.YtjgbfnciedkafaaEvUGc
import Derived.Test.YtjgbfnciedkafaaEvUG7
set_option linter.all false
set_option maxHeartbeats 8000000
noncomputable section
namespace Go.Ev
open Go.Proofs
set_option maxRecDepth 100000
def HF (A : List Int) (x : Int) : Int :=
 match (List.range A.length).find? fun i : Nat => decide (x = A.getD i 0) with
 | some n => (n : Int)
 | none => -1
theorem LW (A : List Int) (x : Int) (hl : A.length <= 1000) : PureF Try.prog p159.ix [.lst 1 (ints A), .i .i64 x] (.i .i64 (HF A x)) := by
 have e1 := aU A
 refine PureF.run NK (by simp) (by simp [aO, dF, Pu, aH]) ?_; conv => whnf
 refine Qg ?_
 refine Rn.loop (fun j : Nat => ⟨(.n (.n (.n (.n .e (some (.i .i64 (A.length : Int))) .e) none .e) (some (.i .i64 x)) .e) (some (.lst 1 (ints A))) (.n (.n (.n .e (some (.i .i64 (j : Int))) .e) none .e) none .e)), .e, .h, none⟩) (fun j => j <= A.length /\ ∀ i, i < j -> decide (x = A.getD i 0) = false) (fun j => A.length - j) 0 ?_ ?_ ?_
 ·refine X.le.mk ?_ (T.le_e _) (Nat.le_refl _) rfl rfl
  show T.le ((.n (.n (.n (.n .e (some (.i .i64 (A.length : Int))) .e) none .e) (some (.i .i64 x)) .e) (some (.lst 1 (ints A))) (.n (.n (.n .e (some (.i .i64 0)) .e) none .e) none .e)) : T D) _
  rw [<- e1]
  exact eN
 ·exact ⟨Nat.zero_le _, fun i h => by omega⟩
 rintro j ⟨hj, ha⟩
 conv => whnf
 refine Qg ?_
 refine WB.dec (fun h => ?_) (fun h => ?_) <;> conv => whnf
 ·have hlt : j < A.length := by omega
  refine Qg ?_
  refine WB.dec (fun h => ?_) (fun h => ?_) <;> conv => whnf
  ·have hx : x = A.getD j 0 := h
   refine Qg ?_
   refine Fin.i rfl ?_
   unfold HF
   rw [List.find?_range_eq_some.2 ⟨decide_eq_true hx, List.mem_range.2 hlt, fun i hi => by rw [ha i hi]; rfl⟩]
  ·have hx : ¬ x = A.getD j 0 := h
   refine Qg ?_
   refine Again.to (j + 1) (by omega) ⟨by omega, fun i hi => ?_⟩ (Nat.le_refl _) ?_
   ·by_cases e : i = j
    ·subst e; exact decide_eq_false hx
    ·exact ha i (by omega)
   (refine Shr.of ?_ ?_ rfl rfl) <;> (repeat' first | exact Rel.e | refine Rel.some ?_ ?_ ?_ | refine Rel.none ?_ ?_) <;> (try first | exact Fx | (refine Ro (ShC.same ?_); (repeat' first | exact ShC.nl | refine ShC.cn ?_ ?_) <;> exact Fx))
   all_goals first | (refine Fz.i ?_; omega) | (refine Fz.pu ?_; simp [Pu, aH])
 ·refine Qg ?_
  refine Fin.i rfl ?_
  unfold HF
  rw [List.find?_range_eq_none.2 fun i hi => by rw [ha i (by omega)]; rfl]
def vF (A : List Int) (x : Int) : Bool := decide (0 <= HF A x)
theorem DG (A : List Int) (x : Int) (hl : A.length <= 1000) : PureF Try.prog p144.ix [.lst 1 (ints A), .i .i64 x] (.b (vF A x)) := by
 have iI := LW A x hl
 refine PureF.run NJ (by simp) (by simp [aO, dF, Pu, aH]) ?_; conv => whnf
 repeat' ((first | refine Qz ?_ | refine Qf iI ?_) <;> conv => whnf)
 exact Fin.b rfl rfl
theorem IR (x : Int) : PureF Try.prog p159.ix [.ns, .i .i64 x] (.i .i64 (-1)) := by
 refine PureF.run NK (by simp) (by simp [aO, dF, Pu]) ?_; conv => whnf
 refine Qg ?_
 refine Rn.loop (fun _ : Nat => ⟨(.n (.n (.n (.n .e (some (.i .i64 0)) .e) none .e) (some (.i .i64 x)) .e) (some (.ns)) (.n (.n (.n .e (some (.i .i64 0)) .e) none .e) none .e)), .e, .h, none⟩) (fun _ => True) (fun _ => 0) 0 ?_ ?_ ?_
 ·(first | (refine X.le.mk ?_ ?_ (Nat.le_refl _) rfl rfl) | skip) <;> (repeat' first | exact T.le_e _ | refine T.le_some ?_ ?_ ?_ | refine T.le_none ?_ ?_ | rfl)
 ·trivial
 intro j _
 conv => whnf
 refine Qg ?_
 refine WB.ff ?_; conv => whnf
 refine Qg ?_
 exact Fin.i rfl rfl
theorem BT (x : Int) : PureF Try.prog p144.ix [.ns, .i .i64 x] (.b (vF [] x)) := by
 have iI := IR x
 refine PureF.run NJ (by simp) (by simp [aO, dF, Pu]) ?_; conv => whnf
 repeat' ((first | refine Qz ?_ | refine Qf iI ?_) <;> conv => whnf)
 exact Fin.b rfl rfl
theorem Il {A : List Int} {x : Int} : vF A x = true ↔ x ∈ A := by
 unfold vF HF
 rw [decide_eq_true_iff]
 cases hF : (List.range A.length).find? fun i : Nat => decide (x = A.getD i 0) with
 | some n =>
   obtain ⟨h1, h2, _⟩ := List.find?_range_eq_some.1 hF
   have h1 : x = A.getD n 0 := by simpa using h1
   refine ⟨fun _ => ?_, fun _ => Int.natCast_nonneg n⟩
   rw [h1]
   exact bS (List.mem_range.1 h2)
 | none =>
   have h3 := List.find?_range_eq_none.1 hF
   refine ⟨fun h => absurd h (by decide), fun h => ?_⟩
   obtain ⟨k, hk, e⟩ := List.mem_iff_getElem.1 h
   have h4 := h3 k hk
   have h5 : x = A.getD k 0 := by simp [List.getD, hk, e]
   rw [decide_eq_true h5] at h4
   cases h4
theorem CN (S : List Int) (x : Int) (hl : S.length <= 1000) : PureF Try.prog p144.ix [lZ S, .i .i64 x] (.b (vF S x)) := by
 cases S with
 | nil => exact BT x
 | cons a l => exact DG (a :: l) x hl
theorem TT (x : Int) : PureF Try.prog p161.ix [.i .i64 x] (.b false) := by
 refine PureF.run UC (by simp) (by simp [aO, dF, Pu]) ?_; conv => whnf
 repeat' ((first | refine Qw ?_ | refine Qd (fun h => ?_) (fun h => ?_)) <;> conv => whnf)
 all_goals first | exact Fin.b rfl rfl | exact Fin.b rfl (by simp) | trace_state
theorem Pn (x : Int) : PureF Try.prog p165.ix [.i .i64 x] (.b false) := by
 refine PureF.run RW (by simp) (by simp [aO, dF, Pu]) ?_; conv => whnf
 repeat' ((first | refine Qw ?_ | refine Qd (fun h => ?_) (fun h => ?_)) <;> conv => whnf)
 all_goals first | exact Fin.b rfl rfl | exact Fin.b rfl (by simp) | trace_state
theorem OK (a b : Int) : PureF Try.prog p160.ix [.i .i64 a, .i .i64 b] (.b (decide (a < b))) := by
 have h1 := Pn a
 refine PureF.run VQ (by simp) (by simp [aO, dF, Pu]) ?_; conv => whnf
 repeat' ((first | refine Qz ?_ | refine Qf h1 ?_) <;> conv => whnf)
 repeat' ((first | with_reducible (first | apply Qt | apply Qu) | refine WB.ff ?_ | refine WB.tt ?_) <;> conv => whnf)
 all_goals exact Fin.b rfl rfl
def Ha (S : List Int) (t : Int) : Nat := (S.filter fun x => decide (x < t)).length
theorem QO (S : List Int) (t : Int) : Ha S t <= S.length := List.length_filter_le _ _
theorem QZ {S : List Int} (hs : S.Pairwise (· < ·)) {t : Int} {i : Nat} (hi : i <= S.length) (h1 : ∀ k, k < i -> S.getD k 0 < t) (h2 : ∀ k, i <= k -> k < S.length -> ¬ S.getD k 0 < t) : Ha S t = i := by
 have e : S = S.take i ++ S.drop i := (List.take_append_drop i S).symm
 unfold Ha
 rw [e, List.filter_append, List.length_append]
 have a1 : (S.take i).filter (fun x => decide (x < t)) = S.take i := by
  rw [List.filter_eq_self]
  intro x hx
  obtain ⟨k, hk, rfl⟩ := List.mem_iff_getElem.1 hx
  rw [List.length_take] at hk
  have := h1 k (by omega)
  rw [decide_eq_true_iff]
  simpa [List.getD, show k < S.length by omega] using this
 have a2 : (S.drop i).filter (fun x => decide (x < t)) = [] := by
  rw [List.filter_eq_nil_iff]
  intro x hx
  obtain ⟨k, hk, rfl⟩ := List.mem_iff_getElem.1 hx
  rw [List.length_drop] at hk
  have := h2 (i + k) (by omega) (by omega)
  rw [decide_eq_true_iff]
  simpa [List.getD, show i + k < S.length by omega] using this
 rw [a1, a2, List.length_take, List.length_nil]
 omega
theorem NS {S : List Int} (hs : S.Pairwise (· < ·)) {i k : Nat} (h : i < k) (hk : k < S.length) : S.getD i 0 < S.getD k 0 := by
 rw [show S.getD i 0 = S[i] by simp [List.getD, show i < S.length by omega], show S.getD k 0 = S[k] by simp [List.getD, hk]]
 exact List.pairwise_iff_getElem.1 hs i k (by omega) hk h
def UG (S : List Int) (t : Int) : Bool := decide (Ha S t < S.length) && decide (S.getD (Ha S t) 0 = t)
theorem SF (S : List Int) (hs : S.Pairwise (· < ·)) (hl : S.length <= 1000) (t : Int) : PureF Try.prog p145.ix [.lst 1 (ints S), .i .i64 t] (.tp [.i .i64 (Ha S t : Int), .b (UG S t)]) := by
 have e1 := aU S
 refine PureF.run Vj (by simp) (by simp [aO, dF, Pu, aH]) ?_; conv => whnf
 refine Qg ?_
 refine Rn.loop (fun s : Nat × Nat => ⟨(.n (.n (.n (.n .e (some (.i .i64 (s.1 : Int))) .e) none .e) (some (.i .i64 t)) .e) (some (.lst 1 (ints S))) (.n (.n (.n .e (some (.i .i64 (s.2 : Int))) .e) none .e) none (.n .e (some (.i .i64 (S.length : Int))) .e))), .e, .h, none⟩) (fun s => s.1 <= s.2 /\ s.2 <= S.length /\ (∀ k, k < s.1 -> S.getD k 0 < t) /\ ∀ k, s.2 <= k -> k < S.length -> ¬ S.getD k 0 < t) (fun s => s.2 - s.1) (0, S.length) ?_ ?_ ?_
 ·refine X.le.mk ?_ (T.le_e _) (Nat.le_refl _) rfl rfl
  show T.le ((.n (.n (.n (.n .e (some (.i .i64 0)) .e) none .e) (some (.i .i64 t)) .e) (some (.lst 1 (ints S))) (.n (.n (.n .e (some (.i .i64 (S.length : Int))) .e) none .e) none (.n .e (some (.i .i64 (S.length : Int))) .e))) : T D) _
  rw [<- e1]
  exact eN
 ·exact ⟨Nat.zero_le _, Nat.le_refl _, fun k h => absurd h (Nat.not_lt_zero _), fun k h1 h2 => by omega⟩
 rintro ⟨i, j⟩ ⟨hij, hj, hlo, hhi⟩
 have hij : i <= j := hij
 have hj : j <= S.length := hj
 have hlo : ∀ k, k < i -> S.getD k 0 < t := hlo
 have hhi : ∀ k, j <= k -> k < S.length -> ¬ S.getD k 0 < t := hhi
 conv => whnf
 refine Qg ?_
 refine WB.dec (fun h => ?_) (fun h => ?_) <;> conv => whnf
 ·have hlt : i < j := by omega
  obtain ⟨m, hm⟩ : ∃ m : Nat, (i + j) / 2 = m := ⟨_, rfl⟩
  refine Qg ?_
  try (refine And.intro (InR.u64 (by omega) (by omega)) ?_; conv => whnf)
  refine Qg ?_
  refine WSt.shrU (a := i + j) (j := 1) (by rfl) (by rfl) rfl (by omega) (fun r h1 b1 => ?_); conv => whnf
  have hr : r = m := by omega
  subst hr
  have hmj : r < j := by omega
  have hmi : i <= r := by omega
  have iL := OK (S.getD r 0) t
  refine Qg ?_
  repeat' ((first | refine Qz ?_ | refine Qf iL ?_) <;> conv => whnf)
  by_cases hc : S.getD r 0 < t
  ·rw [decide_eq_true hc]
   refine WB.tt ?_; conv => whnf
   refine Qg ?_
   refine Again.to (r + 1, j) (show j - (r + 1) < j - i by omega) ⟨by show r + 1 <= j; omega, hj, fun k hk => ?_, hhi⟩ (Nat.le_refl _) ?_
   ·rcases Nat.lt_or_ge k r with h | h
    ·exact Int.lt_trans (NS hs h (by omega)) hc
    ·have : k = r := by have hk : k < r + 1 := hk; omega
     rw [this]; exact hc
   (refine Shr.of ?_ ?_ rfl rfl) <;> (repeat' first | exact Rel.e | refine Rel.some ?_ ?_ ?_ | refine Rel.none ?_ ?_) <;> (try first | exact Fx | (refine Ro (ShC.same ?_); (repeat' first | exact ShC.nl | refine ShC.cn ?_ ?_) <;> exact Fx))
   all_goals first | exact Fz.pu (aH _) | exact Fz.pu trivial
  ·rw [decide_eq_false hc]
   refine WB.ff ?_; conv => whnf
   refine Qg ?_
   refine Again.to (i, r) (show r - i < j - i by omega) ⟨hmi, by show r <= S.length; omega, hlo, fun k h1 h2 => ?_⟩ (Nat.le_refl _) ?_
   ·have h1 : r <= k := h1
    rcases Nat.lt_or_ge r k with h | h
    ·have := NS hs h h2
     omega
    ·have : k = r := by omega
     rw [this]; exact hc
   (refine Shr.of ?_ ?_ rfl rfl) <;> (repeat' first | exact Rel.e | refine Rel.some ?_ ?_ ?_ | refine Rel.none ?_ ?_) <;> (try first | exact Fx | (refine Ro (ShC.same ?_); (repeat' first | exact ShC.nl | refine ShC.cn ?_ ?_) <;> exact Fx))
   all_goals first | exact Fz.pu (aH _) | exact Fz.pu trivial
 ·have he : i = j := by omega
  subst he
  have hN : Ha S t = i := QZ hs hj hlo hhi
  have hB : UG S t = (decide (i < S.length) && decide (S.getD i 0 = t)) := by unfold UG; rw [hN]
  rw [hN, hB]
  by_cases h1 : i < S.length
  ·by_cases h2 : S.getD i 0 = t
   ·rw [decide_eq_true h1, decide_eq_true h2]
    repeat' ((first | refine Qw ?_ | refine Qd (fun h => ?_) (fun h => ?_)) <;> conv => whnf)
    all_goals exact Fin.two (.inr rfl) rfl rfl (.pu trivial) (.pu trivial)
   ·have iN := TT (S.getD i 0)
    rw [decide_eq_true h1, decide_eq_false h2]
    repeat' ((first | refine Qw ?_ | refine Qf iN ?_ | refine Qd (fun h => ?_) (fun h => ?_)) <;> conv => whnf)
    repeat' ((first | with_reducible (first | apply Qt | apply Qu) | refine WB.ff ?_ | refine WB.tt ?_) <;> conv => whnf)
    all_goals exact Fin.two (.inr rfl) rfl rfl (.pu trivial) (.pu trivial)
  ·rw [decide_eq_false h1]
   repeat' ((first | refine Qw ?_ | refine Qd (fun h => ?_) (fun h => ?_)) <;> conv => whnf)
   all_goals exact Fin.two (.inr rfl) rfl rfl (.pu trivial) (.pu trivial)
theorem UV (t : Int) : PureF Try.prog p145.ix [.ns, .i .i64 t] (.tp [.i .i64 (Ha [] t : Int), .b (UG [] t)]) :=
 (SF [] .nil (Nat.zero_le _) t).sub fun γ w => .cons .ns (.cons (.pu (fun _ h => h) trivial) .nil)
theorem Vv (S : List Int) (hs : S.Pairwise (· < ·)) (hl : S.length <= 1000) (t : Int) : PureF Try.prog p145.ix [lZ S, .i .i64 t] (.tp [.i .i64 (Ha S t : Int), .b (UG S t)]) := by
 cases S with
 | nil => exact UV t
 | cons a l => exact SF (a :: l) hs hl t
theorem nB (a : Ln) : (aI a).length = 3 := rfl
theorem Lv (a : Ct) : (cY a).length = 3 := rfl
theorem dR (a : Ln) : aO (aI a) := by simp [aI, aO, Pu]
theorem AG (a : Ct) : aO (cY a) := by simp [cY, aO, Pu]
def wQ (S : List Int) (ls : List Ln) (j : Nat) : List Ln := ((List.range j).filter fun i : Nat => !vF S (i : Int)).map fun i => ls.getD i default
def UR (S : List Int) (ls : List Ln) : List Ln := wQ S ls ls.length
theorem KP (S : List Int) (ls : List Ln) (j : Nat) : wQ S ls (j + 1) = if vF S (j : Int) = true then wQ S ls j else wQ S ls j ++ [ls.getD j default] := by
 unfold wQ
 rw [List.range_succ, List.filter_append, List.map_append]
 cases h : vF S (j : Int) with
 | true => rw [if_pos rfl]; simp [h]
 | false => rw [if_neg (by decide)]; simp [h]
theorem Ms (S : List Int) (ls : List Ln) (j : Nat) : (wQ S ls j).length <= j := by
 unfold wQ
 rw [List.length_map]
 have := List.length_filter_le (fun i : Nat => !vF S (i : Int)) (List.range j)
 rw [List.length_range] at this
 exact this
def xK (S : List Int) (c : Ct) : Ct := ⟨c.a - (Ha S c.a : Int), c.lo, c.hi⟩
def uI (n coin box : Int) (ls : List Ln) (cs : List Ct) : C := .cells false [.o (.i .i64 n) 0, .o (.i .i64 coin) 0, .o (.i .i64 box) 0, .o (.lst 3 (aC aI ls)) 0, .o (.lst 3 (aC cY cs)) 0, .o .any 0] 1
def jH : C := .cells false [.o (.i .i64 0) 0, .o (.i .i64 0) 0, .o (.i .i64 0) 0, .o .ns 0, .o .ns 0] 1
def gZ (n coin box : Int) (d e : D) : C := .cells false [.o (.i .i64 n) 0, .o (.i .i64 coin) 0, .o (.i .i64 box) 0, .o d 0, .o e 0] 1
theorem lY {n coin box : Int} {ls : List Ln} {cs : List Ct} {B : Pos -> Prop} {ob : T C} : ShC B ob (uI n coin box ls cs) (uI n coin box ls cs) := ShC.same (ShC.cn (.pu trivial) (ShC.cn (.pu trivial) (ShC.cn (.pu trivial) (ShC.cn (.pu (aB _)) (ShC.cn (.pu (aE _)) (ShC.cn (.pu trivial) ShC.nl))))))
theorem aX {B : Pos -> Prop} {ob : T C} : ShC B ob jH jH := ShC.same (ShC.cn (.pu trivial) (ShC.cn (.pu trivial) (ShC.cn (.pu trivial) (ShC.cn (.pu trivial) (ShC.cn (.pu trivial) ShC.nl)))))
theorem aQ {n coin box : Int} {d d' e e' : D} {B : Pos -> Prop} {ob : T C} (hd : Fz B ob d d') (he : Fz B ob e e') : ShC B ob (gZ n coin box d e) (gZ n coin box d' e') := by
 refine .cells fun k c' hc => ?_
 match k, hc with
 | 0, hc => cases hc; exact ⟨_, rfl, fun _ h => h, .pu trivial⟩
 | 1, hc => cases hc; exact ⟨_, rfl, fun _ h => h, .pu trivial⟩
 | 2, hc => cases hc; exact ⟨_, rfl, fun _ h => h, .pu trivial⟩
 | 3, hc => cases hc; exact ⟨_, rfl, fun _ h => h, hd⟩
 | 4, hc => cases hc; exact ⟨_, rfl, fun _ h => h, he⟩
 | k + 5, hc => cases hc
def OU (n coin box : Int) (ls : List Ln) (cs : List Ct) (S : List Int) (L : List Ln) (A : List Ct) (j : Nat) : X := ⟨(.n (.n (.n (.n .e none (.n (.n .e (some (.i .i64 (cs.length : Int))) .e) none .e)) none .e) (some (lZ S)) (.n .e (some (.pt (.i .h) 0 0)) .e)) none (.n (.n (.n .e none (.n (.n .e (some (.i .i64 (j : Int))) .e) none .e)) (some (.pt (.o .h) 0 0)) .e) (some (.pt .h 0 0)) (.n .e none (.n (.n (.n .e (some (.lst 3 (aC cY cs))) .e) none .e) none .e)))), (.n (.n .e (some (jH)) (.n .e (Bo cY A) .e)) (some (uI n coin box ls cs)) (.n .e (some (gZ n coin box (.lst 3 (aC aI L)) (xI (.o (.i .h)) 3 A))) .e)), qC (.o (.o .h)) (.i (.i .h)) A, none⟩
def Kx (n coin box : Int) (ls : List Ln) (cs : List Ct) (S : List Int) (A : List Ln) (j : Nat) : X := ⟨(.n (.n (.n .e none (.n (.n .e (some (.i .i64 (ls.length : Int))) .e) none .e)) (some (lZ S)) (.n .e (some (.pt (.i .h) 0 0)) .e)) none (.n (.n .e (some (.pt (.o .h) 0 0)) (.n (.n .e (some (.i .i64 (j : Int))) .e) none .e)) (some (.pt .h 0 0)) (.n (.n (.n .e (some (.lst 3 (aC aI ls))) .e) none .e) none .e))), (.n (.n .e (some (jH)) (.n .e (Bo aI A) .e)) (some (uI n coin box ls cs)) (.n .e (some (gZ n coin box (xI (.o (.i .h)) 3 A) .ns)) .e)), qC (.o (.o .h)) (.i (.i .h)) A, none⟩
def eQ : RC -> RC
 | .seq _ b => b
 | c => c
def Rd : RC := eQ (eQ (eQ (eQ Nx)))
def Ze (n coin box : Int) (ls : List Ln) (cs : List Ct) (S : List Int) (L : List Ln) : X := ⟨(.n (.n .e (some (lZ S)) (.n .e (some (.pt (.i .h) 0 0)) .e)) none (.n (.n .e (some (.pt (.o .h) 0 0)) .e) (some (.pt .h 0 0)) .e)), (.n (.n .e (some (jH)) .e) (some (uI n coin box ls cs)) (.n .e (some (gZ n coin box (.lst 3 (aC aI L)) .ns)) .e)), .o (.o .h), none⟩
theorem Db (n coin box : Int) (ls : List Ln) (cs : List Ct) (S : List Int) (hS : S.length <= 1000) (hp : S.Pairwise (· < ·)) (L : List Ln) (hc : cs.length <= 100) (ha : ∀ c ∈ cs, 0 <= c.a /\ c.a <= 1000) : Rn Try.prog 64 Rd (Ze n coin box ls cs S L) (Fin NR (.ag [.i .i64 n, .i .i64 coin, .i .i64 box, .lst 3 (aC aI L), .lst 3 (aC cY (cs.map (xK S)))])) := by
 have e3 := aD cY cs
 conv => whnf
 refine Qg ?_
 refine Rn.loop (fun j : Nat => OU n coin box ls cs S L ((cs.take j).map (xK S)) j) (fun j => j <= cs.length /\ True) (fun j => cs.length - j) 0 ?_ ?_ ?_
 ·refine X.le.mk ?_ ?_ (Nat.le_refl _) rfl rfl
  ·show T.le ((.n (.n (.n (.n .e none (.n (.n .e (some (.i .i64 (cs.length : Int))) .e) none .e)) none .e) (some (lZ S)) (.n .e (some (.pt (.i .h) 0 0)) .e)) none (.n (.n (.n .e none (.n (.n .e (some (.i .i64 0)) .e) none .e)) (some (.pt (.o .h) 0 0)) .e) (some (.pt .h 0 0)) (.n .e none (.n (.n (.n .e (some (.lst 3 (aC cY cs))) .e) none .e) none .e)))) : T D) _
   rw [<- e3]
   exact Lw
  ·exact Lw
 ·exact ⟨Nat.zero_le _, trivial⟩
 rintro j ⟨hj, _⟩
 have hsc : j < cs.length -> (cs.take (j + 1)).map (xK S) = (cs.take j).map (xK S) ++ [xK S (cs.getD j default)] := fun h => by
  rw [aM (d := default) h, List.map_append]; rfl
 have hAl : ((cs.take j).map (xK S)).length <= j := by rw [List.length_map, List.length_take]; omega
 have hend : j = cs.length -> (cs.take j).map (xK S) = cs.map (xK S) := fun h => by rw [List.take_of_length_le (by omega)]
 generalize hA : (cs.take j).map (xK S) = A at *
 conv => whnf
 refine Qg ?_
 refine WB.dec (fun h => ?_) (fun h => ?_) <;> conv => whnf
 ·have hlt : j < cs.length := by omega
  have hsc := hsc hlt
  have hca := ha _ (bS (d := default) hlt)
  have iB := Vv S hp hS (cs.getD j default).a
  have hle := QO S (cs.getD j default).a
  cases A with
  | nil =>
    repeat' ((first | refine Qz ?_ | refine Qf iB ?_) <;> conv => whnf)
    refine WSt.app_first (r := cY (xK S (cs.getD j default))) (by rfl) (.inl rfl) (by rfl) (by rfl) (by rfl) (by rfl) ?_; conv => whnf
    refine Qg ?_
    refine Again.to (j + 1) (by omega) ⟨by omega, trivial⟩ (by show (qC (.o (.o .h)) (.i (.i .h)) ((cs.take j).map (xK S))).nat <= (qC (.o (.o .h)) (.i (.i .h)) ((cs.take (j + 1)).map (xK S))).nat; rw [hA, hsc]; exact (show 4 <= 7 by omega)) ?_
    show Shr _ (OU n coin box ls cs S L ((cs.take (j + 1)).map (xK S)) (j + 1))
    rw [hsc]
    refine Shr.of ?_ ?_ rfl rfl
    ·(repeat' first | exact Rel.e | refine Rel.some ?_ ?_ ?_ | refine Rel.none ?_ ?_ | refine Rel.ee ?_ ?_)
     all_goals show Fz _ _ _ _
     all_goals first | exact Fy | exact .pu (gC _) | exact .pu (aE _) | exact .pu (aB _)
    ·(repeat' first | exact Rel.e | refine Rel.some ?_ ?_ ?_ | refine Rel.none ?_ ?_ | refine Rel.ee ?_ ?_)
     all_goals first
      | exact Ro lY
      | exact Ro aX
      | exact Ro (aQ (.pu (aB _)) (.pu trivial))
      | exact Ro (aQ (.pu (aB _)) (.ksl (Ql rfl)))
      | (refine Ro (ShC.same fun c hc => ?_); obtain ⟨d, hd, rfl⟩ := List.mem_map.1 hc; exact .pu (aF.1 (AG _) d hd))
  | cons a s =>
    have hs5 : s.length + 1 <= 1000 := Nat.le_trans hAl (by omega)
    repeat' ((first | refine Qz ?_ | refine Qf iB ?_) <;> conv => whnf)
    refine WSt.app_one (id := (.o (.i .h))) (ds := (aC cY (a :: s)).flatten) (r := cY (xK S (cs.getD j default))) (by rfl) (by rfl) (by rfl) (by rfl) (by rfl) (by rfl) (by rw [cZ (z := 3) Lv]; rfl) (by rfl) (by rfl) (by omega) (by rfl) ?_; conv => whnf
    refine Qg ?_
    refine Again.to (j + 1) (by omega) ⟨by omega, trivial⟩ (by show (qC (.o (.o .h)) (.i (.i .h)) ((cs.take j).map (xK S))).nat <= (qC (.o (.o .h)) (.i (.i .h)) ((cs.take (j + 1)).map (xK S))).nat; rw [hA, hsc, List.cons_append]; exact (show 7 <= 7 by omega)) ?_
    show Shr _ (OU n coin box ls cs S L ((cs.take (j + 1)).map (xK S)) (j + 1))
    rw [hsc, List.cons_append]
    refine Shr.of ?_ ?_ rfl rfl
    ·(repeat' first | exact Rel.e | refine Rel.some ?_ ?_ ?_ | refine Rel.none ?_ ?_ | refine Rel.ee ?_ ?_)
     all_goals show Fz _ _ _ _
     all_goals first | exact Fy | exact .pu (gC _) | exact .pu (aE _) | exact .pu (aB _)
    ·show Rel _ _ ((.n (.n .e (some (jH)) (.n .e (Bo cY (a :: (s ++ [(xK S (cs.getD j default))]))) .e)) (some (uI n coin box ls cs)) (.n .e (some (gZ n coin box (.lst 3 (aC aI L)) (xI (.o (.i .h)) 3 (a :: (s ++ [(xK S (cs.getD j default))]))))) .e)) : T C) _
     rw [jY, kB]
     (repeat' first | exact Rel.e | refine Rel.some ?_ ?_ ?_ | refine Rel.none ?_ ?_ | refine Rel.ee ?_ ?_)
     all_goals first
      | exact Ro lY
      | exact Ro aX
      | exact Ro (aQ (.pu (aB _)) (.pu trivial))
      | exact Ro (aQ (.pu (aB _)) (.ksl (Ql rfl)))
      | (refine Ro (ShC.grown (by omega) (aF.2 fun d hd => ?_)); rcases List.mem_append.1 hd with hd | hd <;> first | exact aF.1 (fE AG _) d hd | exact aF.1 (AG _) d hd)
 ·have he := hend (by omega)
  rw [<- he]
  refine Qg ?_
  exact ⟨.inr rfl, _, rfl, .ag (.cons (.pu trivial) (.cons (.pu trivial) (.cons (.pu trivial) (.cons (.pu (aB _)) (.cons (Fz.G A (fun h => h) (fun c h => h) Lv AG) .nil)))))⟩
theorem FU (n coin box : Int) (ls : List Ln) (cs : List Ct) (S : List Int) (hS : S.length <= 1000) (hp : S.Pairwise (· < ·)) (hl : ls.length <= 100) (hc : cs.length <= 100) (ha : ∀ c ∈ cs, 0 <= c.a /\ c.a <= 1000) : PureF Try.prog p125.ix [.ag [.i .i64 n, .i .i64 coin, .i .i64 box, .lst 3 (aC aI ls), .lst 3 (aC cY cs), .any], lZ S] (.ag [.i .i64 n, .i .i64 coin, .i .i64 box, .lst 3 (aC aI (UR S ls)), .lst 3 (aC cY (cs.map (xK S)))]) := by
 have e2 := aD aI ls
 have hrest := Db n coin box ls cs S hS hp (UR S ls) hc ha
 have hsd := gC S
 refine PureF.run TX (by simp) (by simp [aO, dF, Pu, aB, aE, hsd]) ?_; conv => whnf
 refine Rn.seq ?_; conv => whnf
 refine Rn.reg ?_; conv => whnf
 refine Rn.far rfl ?_
 refine RnF.seq ?_; conv => whnf
 refine Qg ?_
 refine ⟨rfl, rfl, (show 3 <= 4 by omega), ?_⟩
 refine RnF.seq ?_; conv => whnf
 refine Qg ?_
 refine ⟨rfl, rfl, (show 3 <= 4 by omega), ?_⟩
 refine RnF.seq ?_; conv => whnf
 refine Qg ?_
 refine Rn.loop (fun j : Nat => Kx n coin box ls cs S (wQ S ls j) j) (fun j => j <= ls.length /\ True) (fun j => ls.length - j) 0 ?_ ?_ ?_
 ·refine X.le.mk ?_ ?_ (Nat.le_refl _) rfl rfl
  ·show T.le ((.n (.n (.n .e none (.n (.n .e (some (.i .i64 (ls.length : Int))) .e) none .e)) (some (lZ S)) (.n .e (some (.pt (.i .h) 0 0)) .e)) none (.n (.n .e (some (.pt (.o .h) 0 0)) (.n (.n .e (some (.i .i64 0)) .e) none .e)) (some (.pt .h 0 0)) (.n (.n (.n .e (some (.lst 3 (aC aI ls))) .e) none .e) none .e))) : T D) _
   rw [<- e2]
   exact Lw
  ·exact Lw
 ·exact ⟨Nat.zero_le _, trivial⟩
 rintro j ⟨hj, _⟩
 have hsc := KP S ls j
 have hAl := Ms S ls j
 have hend : j = ls.length -> wQ S ls j = UR S ls := fun h => by rw [h]; rfl
 generalize hA : wQ S ls j = A at *
 conv => whnf
 refine Qg ?_
 refine WB.dec (fun h => ?_) (fun h => ?_) <;> conv => whnf
 ·have hlt : j < ls.length := by omega
  have iC := CN S (j : Int) hS
  cases hc : vF S (j : Int) with
  | true =>
    rw [hc] at iC
    rw [hc, if_pos rfl] at hsc
    cases A with
    | nil =>
      repeat' ((first | refine Qz ?_ | refine Qf iC ?_) <;> conv => whnf)
      refine WB.ff ?_; conv => whnf
      refine Qg ?_
      refine Again.to (j + 1) (by omega) ⟨by omega, trivial⟩ (by show (qC (.o (.o .h)) (.i (.i .h)) (wQ S ls j)).nat <= (qC (.o (.o .h)) (.i (.i .h)) (wQ S ls (j + 1))).nat; rw [hA, hsc]; exact (show 4 <= 4 by omega)) ?_
      show Shr _ (Kx n coin box ls cs S (wQ S ls (j + 1)) (j + 1))
      rw [hsc]
      refine Shr.of ?_ ?_ rfl rfl
      ·(repeat' first | exact Rel.e | refine Rel.some ?_ ?_ ?_ | refine Rel.none ?_ ?_ | refine Rel.ee ?_ ?_)
       all_goals show Fz _ _ _ _
       all_goals first | exact Fy | exact .pu (gC _) | exact .pu (aE _) | exact .pu (aB _)
      ·(repeat' first | exact Rel.e | refine Rel.some ?_ ?_ ?_ | refine Rel.none ?_ ?_ | refine Rel.ee ?_ ?_)
       all_goals first
        | exact Ro lY
        | exact Ro aX
        | exact Ro (aQ (.pu trivial) (.pu trivial))
        | exact Ro (aQ (.ksl (Ql rfl)) (.pu trivial))
    | cons a s =>
      repeat' ((first | refine Qz ?_ | refine Qf iC ?_) <;> conv => whnf)
      refine WB.ff ?_; conv => whnf
      refine Qg ?_
      refine Again.to (j + 1) (by omega) ⟨by omega, trivial⟩ (by show (qC (.o (.o .h)) (.i (.i .h)) (wQ S ls j)).nat <= (qC (.o (.o .h)) (.i (.i .h)) (wQ S ls (j + 1))).nat; rw [hA, hsc]; exact (show 7 <= 7 by omega)) ?_
      show Shr _ (Kx n coin box ls cs S (wQ S ls (j + 1)) (j + 1))
      rw [hsc]
      refine Shr.of ?_ ?_ rfl rfl
      ·(repeat' first | exact Rel.e | refine Rel.some ?_ ?_ ?_ | refine Rel.none ?_ ?_ | refine Rel.ee ?_ ?_)
       all_goals show Fz _ _ _ _
       all_goals first | exact Fy | exact .pu (gC _) | exact .pu (aE _) | exact .pu (aB _)
      ·(repeat' first | exact Rel.e | refine Rel.some ?_ ?_ ?_ | refine Rel.none ?_ ?_ | refine Rel.ee ?_ ?_)
       all_goals first
        | exact Ro lY
        | exact Ro aX
        | exact Ro (aQ (.pu trivial) (.pu trivial))
        | exact Ro (aQ (.ksl (Ql rfl)) (.pu trivial))
        | exact Ro (ShC.G dR a s)
  | false =>
    rw [hc] at iC
    rw [hc, if_neg (by decide)] at hsc
    cases A with
    | nil =>
      repeat' ((first | refine Qz ?_ | refine Qf iC ?_) <;> conv => whnf)
      refine WB.tt ?_; conv => whnf
      refine Qg ?_
      refine WSt.app_first (r := aI (ls.getD j default)) (by rfl) (.inl rfl) (by rfl) (by rfl) (by rfl) (by rfl) ?_; conv => whnf
      refine Qg ?_
      refine Again.to (j + 1) (by omega) ⟨by omega, trivial⟩ (by show (qC (.o (.o .h)) (.i (.i .h)) (wQ S ls j)).nat <= (qC (.o (.o .h)) (.i (.i .h)) (wQ S ls (j + 1))).nat; rw [hA, hsc]; exact (show 4 <= 7 by omega)) ?_
      show Shr _ (Kx n coin box ls cs S (wQ S ls (j + 1)) (j + 1))
      rw [hsc]
      refine Shr.of ?_ ?_ rfl rfl
      ·(repeat' first | exact Rel.e | refine Rel.some ?_ ?_ ?_ | refine Rel.none ?_ ?_ | refine Rel.ee ?_ ?_)
       all_goals show Fz _ _ _ _
       all_goals first | exact Fy | exact .pu (gC _) | exact .pu (aE _) | exact .pu (aB _)
      ·(repeat' first | exact Rel.e | refine Rel.some ?_ ?_ ?_ | refine Rel.none ?_ ?_ | refine Rel.ee ?_ ?_)
       all_goals first
        | exact Ro lY
        | exact Ro aX
        | exact Ro (aQ (.pu trivial) (.pu trivial))
        | exact Ro (aQ (.ksl (Ql rfl)) (.pu trivial))
        | (refine Ro (ShC.same fun c hc => ?_); obtain ⟨d, hd, rfl⟩ := List.mem_map.1 hc; exact .pu (aF.1 (dR _) d hd))
    | cons a s =>
      have hs5 : s.length + 1 <= 1000 := Nat.le_trans hAl (by omega)
      repeat' ((first | refine Qz ?_ | refine Qf iC ?_) <;> conv => whnf)
      refine WB.tt ?_; conv => whnf
      refine Qg ?_
      refine WSt.app_one (id := (.o (.i .h))) (ds := (aC aI (a :: s)).flatten) (r := aI (ls.getD j default)) (by rfl) (by rfl) (by rfl) (by rfl) (by rfl) (by rfl) (by rw [cZ (z := 3) nB]; rfl) (by rfl) (by rfl) (by omega) (by rfl) ?_; conv => whnf
      refine Qg ?_
      refine Again.to (j + 1) (by omega) ⟨by omega, trivial⟩ (by show (qC (.o (.o .h)) (.i (.i .h)) (wQ S ls j)).nat <= (qC (.o (.o .h)) (.i (.i .h)) (wQ S ls (j + 1))).nat; rw [hA, hsc, List.cons_append]; exact (show 7 <= 7 by omega)) ?_
      show Shr _ (Kx n coin box ls cs S (wQ S ls (j + 1)) (j + 1))
      rw [hsc, List.cons_append]
      refine Shr.of ?_ ?_ rfl rfl
      ·(repeat' first | exact Rel.e | refine Rel.some ?_ ?_ ?_ | refine Rel.none ?_ ?_ | refine Rel.ee ?_ ?_)
       all_goals show Fz _ _ _ _
       all_goals first | exact Fy | exact .pu (gC _) | exact .pu (aE _) | exact .pu (aB _)
      ·show Rel _ _ ((.n (.n .e (some (jH)) (.n .e (Bo aI (a :: (s ++ [(ls.getD j default)]))) .e)) (some (uI n coin box ls cs)) (.n .e (some (gZ n coin box (xI (.o (.i .h)) 3 (a :: (s ++ [(ls.getD j default)]))) .ns)) .e)) : T C) _
       rw [jY, kB]
       (repeat' first | exact Rel.e | refine Rel.some ?_ ?_ ?_ | refine Rel.none ?_ ?_ | refine Rel.ee ?_ ?_)
       all_goals first
        | exact Ro lY
        | exact Ro aX
        | exact Ro (aQ (.pu trivial) (.pu trivial))
        | exact Ro (aQ (.ksl (Ql rfl)) (.pu trivial))
        | (refine Ro (ShC.grown (by omega) (aF.2 fun d hd => ?_)); rcases List.mem_append.1 hd with hd | hd <;> first | exact aF.1 (fE dR _) d hd | exact aF.1 (dR _) d hd)
 ·have he := hend (by omega)
  rw [<- he] at hrest ⊢
  refine Qg ?_
  refine ⟨rfl, rfl, (show 3 <= (qC (.o (.o .h)) (.i (.i .h)) A).nat by cases A <;> simp [qC, Pos.nat]), RnF.turn (z' := Ze n coin box ls cs S A) (B := fun id => id.nat < 4) ?_ (fun id (h : id.nat < 3) => show id.nat < 4 by omega) (fun id h => h) (show 3 <= 4 by omega) hrest⟩
  refine ShrB.of ?_ ?_ rfl rfl
  ·(repeat' first | exact Rel.e | refine Rel.some ?_ ?_ ?_ | refine Rel.none ?_ ?_ | refine Rel.ee ?_ ?_)
   all_goals show Fz _ _ _ _
   all_goals first | exact .pu trivial | exact .pu hsd | exact .kpt (Ql rfl)
  ·(repeat' first | exact Rel.e | refine Rel.some ?_ ?_ ?_ | refine Rel.none ?_ ?_ | refine Rel.ee ?_ ?_)
   all_goals first
    | exact ⟨show _ < 4 by simp [Pos.nat], lY⟩
    | exact ⟨show _ < 4 by simp [Pos.nat], aX⟩
    | exact ⟨show _ < 4 by simp [Pos.nat], aQ (Fz.G A (show ¬ 6 < 4 by omega) (fun c h => h) nB dR) (.pu trivial)⟩
def lP (Q : Nat -> Bool) : Nat -> Option Nat
 | 0 => none
 | c + 1 => if Q c = true then some c else lP Q c
def yH (P : Nat -> Bool) (m : Nat) (c : Nat) : Bool := decide (fY c = m) && P c
def MQ (e : Nat) (P : Nat -> Bool) : Option Nat := (List.range (e + 1)).findSome? fun m => lP (yH P m) (2 ^ e)
theorem sY {Q : Nat -> Bool} : ∀ {n : Nat}, lP Q n = none -> ∀ c, c < n -> Q c = false
 | 0, _, c, h => absurd h (Nat.not_lt_zero _)
 | n + 1, h, c, hc => by
   unfold lP at h
   split at h
   ·cases h
   ·rename_i hq
    rcases Nat.lt_or_ge c n with h1 | h1
    ·exact sY h c h1
    ·have : c = n := by omega
     subst this
     simpa using hq
theorem sM {Q : Nat -> Bool} : ∀ {n : Nat} {c : Nat}, lP Q n = some c -> Q c = true /\ c < n /\ ∀ d, c < d -> d < n -> Q d = false
 | 0, c, h => by cases h
 | n + 1, c, h => by
   unfold lP at h
   split at h
   ·cases h
    rename_i hq
    exact ⟨hq, by omega, fun d h1 h2 => by omega⟩
   ·rename_i hq
    obtain ⟨h1, h2, h3⟩ := sM h
    refine ⟨h1, by omega, fun d k1 k2 => ?_⟩
    rcases Nat.lt_or_ge d n with h4 | h4
    ·exact h3 d k1 h4
    ·have : d = n := by omega
     subst this
     simpa using hq
theorem Kz {e : Nat} {P : Nat -> Bool} {c : Nat} (h : MQ e P = some c) : P c = true /\ c < 2 ^ e /\ ∀ d, d < 2 ^ e -> P d = true -> fY d <= e -> fY c < fY d \/ (fY c = fY d /\ d <= c) := by
 have key : ∀ n, (List.range n).findSome? (fun m => lP (yH P m) (2 ^ e)) = some c -> P c = true /\ c < 2 ^ e /\ ∀ d, d < 2 ^ e -> P d = true -> fY d < n -> fY c < fY d \/ (fY c = fY d /\ d <= c) := fun n => by
  induction n with
  | zero => intro h; cases h
  | succ n ih =>
    intro h
    rw [List.range_succ, List.findSome?_append] at h
    cases h0 : (List.range n).findSome? (fun m => lP (yH P m) (2 ^ e)) with
    | some c0 =>
      rw [h0] at h
      have : c0 = c := by simpa using h
      subst this
      obtain ⟨h1, h2, h3⟩ := ih h0
      refine ⟨h1, h2, fun d k1 k2 k3 => ?_⟩
      rcases Nat.lt_or_ge (fY d) n with h4 | h4
      ·exact h3 d k1 k2 h4
      ·have hcn : fY c0 < n := by
        obtain ⟨m, hm, hf⟩ := List.exists_of_findSome?_eq_some h0
        have := (sM hf).1
        unfold yH at this
        rw [Bool.and_eq_true, decide_eq_true_iff] at this
        have := List.mem_range.1 hm
        omega
       exact .inl (by omega)
    | none =>
      rw [h0] at h
      have h : lP (yH P n) (2 ^ e) = some c := by simpa using h
      obtain ⟨h1, h2, h3⟩ := sM h
      unfold yH at h1
      rw [Bool.and_eq_true, decide_eq_true_iff] at h1
      refine ⟨h1.2, h2, fun d k1 k2 k3 => ?_⟩
      rcases Nat.lt_or_ge (fY d) n with h4 | h4
      ·have h5 := List.findSome?_eq_none_iff.1 h0 (fY d) (List.mem_range.2 h4)
       have h6 := sY h5 d k1
       unfold yH at h6
       rw [k2] at h6
       simp at h6
      ·have h5 : fY d = n := by omega
       refine .inr ⟨by omega, ?_⟩
       rcases Nat.lt_or_ge c d with h6 | h6
       ·have := h3 d h6 k1
        unfold yH at this
        rw [k2, h5] at this
        simp at this
       ·exact h6
 obtain ⟨h1, h2, h3⟩ := key (e + 1) h
 exact ⟨h1, h2, fun d k1 k2 k3 => h3 d k1 k2 (by omega)⟩
theorem IM {e : Nat} {P : Nat -> Bool} (h : MQ e P = none) : ∀ d, d < 2 ^ e -> fY d <= e -> P d = false := fun d hd hc => by
 have h5 := List.findSome?_eq_none_iff.1 h (fY d) (List.mem_range.2 (by omega))
 have h6 := sY h5 d hd
 unfold yH at h6
 simpa using h6
def kO (q : Nat -> Bool) (ls : List Ln) : List Ln := ((List.range ls.length).filter fun i => !q i).map fun i => ls.getD i default
def qX (q : Nat -> Bool) (c : Ct) : Ct := ⟨(((List.range c.a.toNat).filter fun i => !q i).length : Int), c.lo, c.hi⟩
def yI (q : Nat -> Bool) (B : Bk) : Bk := ⟨B.n, B.coin, B.box, kO q B.ls, B.cs.map (qX q)⟩
theorem sD (q : Nat -> Bool) : ∀ k : Nat, ((List.range k).filter q).length + ((List.range k).filter fun i => !q i).length = k
 | 0 => rfl
 | k + 1 => by
   have := sD q k
   rw [List.range_succ, List.filter_append, List.filter_append, List.length_append, List.length_append]
   cases h : q k <;> simp [h] <;> omega
theorem Az (q : Nat -> Bool) {k e : Nat} (h : k <= e) : ((List.range e).filter fun i => q i && decide (i < k)).length = ((List.range k).filter q).length := by
 obtain ⟨d, rfl⟩ : ∃ d, e = k + d := ⟨e - k, by omega⟩
 rw [List.range_add, List.filter_append, List.length_append]
 have h1 : (List.range k).filter (fun i => q i && decide (i < k)) = (List.range k).filter q := by
  apply List.filter_congr
  intro i hi
  rw [decide_eq_true (List.mem_range.1 hi), Bool.and_true]
 have h2 : ((List.range d).map (k + ·)).filter (fun i => q i && decide (i < k)) = [] := by
  rw [List.filter_eq_nil_iff]
  intro i hi
  obtain ⟨j, _, rfl⟩ := List.mem_map.1 hi
  simp
 rw [h1, h2, List.length_nil, Nat.add_zero]
theorem Cx (q : Nat -> Bool) {k e : Nat} (h : k <= e) : ((List.range k).filter q).length <= ((List.range e).filter q).length := by
 obtain ⟨d, rfl⟩ : ∃ d, e = k + d := ⟨e - k, by omega⟩
 rw [List.range_add, List.filter_append, List.length_append]
 omega
theorem yX (q : Nat -> Bool) (ls : List Ln) : (kO q ls).length = ((List.range ls.length).filter fun i => !q i).length := List.length_map _
theorem HZ (q : Nat -> Bool) (ls : List Ln) : (kO q ls).length <= ls.length := by
 rw [yX]
 have := List.length_filter_le (fun i => !q i) (List.range ls.length)
 rw [List.length_range] at this
 exact this
theorem yJ (q : Nat -> Bool) (ls : List Ln) : (kO q ls).Sublist ls := by
 have h : (List.range ls.length).map (fun i => ls.getD i default) = ls := by
  apply List.ext_getElem (by simp)
  intro i h1 h2
  simp [List.getD, h2]
 have := (List.filter_sublist (p := fun i => !q i) (l := List.range ls.length)).map fun i => ls.getD i default
 rw [h] at this
 exact this
theorem IE {n : Int} (h1 : 1 <= n) (h4 : n <= 4) {A C : List Ln} (h : A.Sublist C) : ∀ p q : Int, 1 <= p -> p <= q -> p <= 5000 -> A.foldl (fun m l => min 5000 (m * kU n l)) p <= C.foldl (fun m l => min 5000 (m * kU n l)) q := by
 induction h with
 | slnil => exact fun p q _ h _ => h
 | cons a _ ih =>
   intro p q hp hpq h5
   obtain ⟨b1, _⟩ := oC h1 h4 a
   have k1 : q * 1 <= q * kU n a := Int.mul_le_mul_of_nonneg_left b1 (by omega)
   exact ih p _ hp (show p <= min 5000 (q * kU n a) by omega) h5
 | cons_cons a _ ih =>
   intro p q hp hpq h5
   obtain ⟨b1, _⟩ := oC h1 h4 a
   have k1 : p * 1 <= p * kU n a := Int.mul_le_mul_of_nonneg_left b1 (by omega)
   have k2 := Int.mul_le_mul_of_nonneg_right hpq (show 0 <= kU n a by omega)
   exact ih _ _ (show 1 <= min 5000 (p * kU n a) by omega) (show min 5000 (p * kU n a) <= min 5000 (q * kU n a) by omega) (show min 5000 (p * kU n a) <= 5000 by omega)
theorem VB.keep {B : Bk} (V : VB B) (q : Nat -> Bool) : VB (yI q B) := by
 refine ⟨V.n, V.coin, V.box, Nat.le_trans (HZ q B.ls) V.len, ?_, ?_, ?_, ?_⟩
 ·show (B.cs.map (qX q)).length <= 4
  rw [List.length_map]; exact V.clen
 ·show (kO q B.ls).all (cL B.n) = true
  rw [List.all_eq_true]
  exact fun x hx => List.all_eq_true.1 V.ls x ((yJ q B.ls).subset hx)
 ·intro c hc
  obtain ⟨d, hd, rfl⟩ := List.mem_map.1 hc
  have := V.cs d hd
  refine ⟨Int.natCast_nonneg _, ?_⟩
  show (((List.range d.a.toNat).filter fun i => !q i).length : Int) <= ((kO q B.ls).length : Int)
  rw [yX]
  have := Cx (fun i => !q i) (show d.a.toNat <= B.ls.length by omega)
  omega
 ·have hs := IE V.n.1 V.n.2 (yJ q B.ls) 1 1 (by omega) (by omega) (by omega)
  have hm := V.many
  exact Int.le_trans hs hm
def qP (e c i : Nat) : Bool := c.testBit (e - 1 - i)
theorem HK {e c i : Nat} (hi : i < e) : (i : Int) ∈ iA c e ↔ qP e c i = true := by
 unfold iA iE
 rw [List.mem_map]
 constructor
 ·rintro ⟨k, hk, hke⟩
  have : k = i := by omega
  subst this
  exact (List.mem_filter.1 hk).2
 ·exact fun h => ⟨i, List.mem_filter.2 ⟨List.mem_range.2 hi, h⟩, rfl⟩
theorem Kw {e c i : Nat} (hi : i < e) : vF (iA c e) (i : Int) = qP e c i := by
 rw [Bool.eq_iff_iff, Il]
 exact HK hi
theorem LM (ls : List Ln) (c : Nat) : UR (iA c ls.length) ls = kO (qP ls.length c) ls := by
 unfold UR wQ kO
 rw [List.filter_congr fun i hi => by rw [Kw (List.mem_range.1 hi)]]
theorem LU {e c : Nat} {k : Ct} (h : 0 <= k.a /\ k.a <= e) : xK (iA c e) k = qX (qP e c) k := by
 have h1 : Ha (iA c e) k.a = ((List.range k.a.toNat).filter (qP e c)).length := by
  unfold Ha iA iE
  rw [List.filter_map, List.length_map, List.filter_filter]
  rw [<- Az (qP e c) (show k.a.toNat <= e by omega)]
  congr 1
  apply List.filter_congr
  intro i _
  show (decide ((i : Int) < k.a) && c.testBit (e - 1 - i)) = (c.testBit (e - 1 - i) && decide (i < k.a.toNat))
  rw [Bool.and_comm, decide_eq_decide.2 (show (i : Int) < k.a ↔ i < k.a.toNat by omega)]
 have h2 := sD (qP e c) k.a.toNat
 unfold xK qX
 rw [h1]
 congr 1
 omega
theorem LF (c e : Nat) : (iA c e).Pairwise (· < ·) := by
 unfold iA iE
 rw [List.pairwise_map]
 refine List.Pairwise.imp (fun {a b} h => ?_) (List.Pairwise.filter _ List.pairwise_lt_range)
 omega
theorem Kt (c e : Nat) : (iA c e).length <= e := CD c e e
theorem RndOk.ofW {P : Program} {id : Pos} {ds : List D} {ob ob' : T C} {nx nx' : Pos} {v : D} (h : WRnd P id ds (some .h) ⟨.e, ob, nx, none⟩ (fun x => x = ⟨.n .e (some v) .e, ob', nx', none⟩)) : RndOk P id ds ob nx none v ob' nx' none := by
 obtain ⟨v1, ob1, nx1, lg1, Z, h1, h2, h3⟩ := h.ok
 subst h3
 have h2 : T.setK .h v1 (T.e : T D) (fun sl => some (⟨sl, ob1, nx1, lg1⟩ : X)) = some ⟨.n .e (some v) .e, ob', nx', none⟩ := h2
 rw [T.setK_eq] at h2
 obtain ⟨e1, e2, e3, e4⟩ := X.mk.inj (Option.some.inj h2)
 have e1 := congrArg (fun t => T.get t .h) e1
 have e1 : (T.set .h v1 (T.e : T D)).get .h = some v := e1
 rw [T.get_set_same] at e1
 have e1 := Option.some.inj e1
 subst e1 e2 e3 e4
 exact h1
def yU (B : Bk) (c : Nat) : Bool := lI (yI (qP B.ls.length c) B)
def OO (e many : Nat) : T D := (.n (.n (.n .e (some (.pt (.i .h) 0 0)) (.n (.n .e (some (.fn p141 [] [.pl [.i .i64 (e : Int)] 0, .pl [.i .i64 (many : Int)] 0])) .e) (some (.i .i64 (many : Int))) .e)) (some (.pt .h 0 0)) .e) none (.n .e (some (.pt (.o .h) 0 0)) (.n (.n .e (some (.i .i64 ((e : Int) + 1))) .e) none .e)))
def Ru (e : Nat) : Option Nat -> D
 | none => .ns
 | some c => lZ (iA c e)
def Zb (e many : Nat) : Option Nat -> C
 | none => .lp (OO e many) [p21] 30 (mB (aN Try.f94) 0) (mQ (aN Try.f94) 0) .ready none
 | some _ => .lp (OO e many) [p21] 30 (mB (aN Try.f94) 0) (mQ (aN Try.f94) 0) .done (some (.exit 0))
def NG (x1 x2 x3 x4 : C) : T C := .n (.n (.n .e (some x4) .e) (some x2) .e) (some x1) (.n .e (some x3) .e)
def Lx (n coin box : Int) (ls : List Ln) (cs : List Ct) (many : Nat) (o : Option Nat) : T C := NG (uI n coin box ls cs) (.cells false [.o (Ru ls.length o) 0] 1) (.cells false [.o (.b o.isSome) 0] 1) (Zb ls.length many o)
theorem Kf (e many n : Nat) (hn : 5 <= n) : ∀ s d, (OO e many).get s = some d -> Kp n d := by
 show TAll (fun _ d => Kp n d) (OO e many)
 unfold OO
 repeat' first | exact TAll.e | refine TAll.some ?_ ?_ ?_ | refine TAll.none ?_ ?_
 all_goals simp [Kp, KpL, Pu, aO, Pos.nat]
 all_goals omega
theorem QG (e : Nat) (o : Option Nat) : Pu (Ru e o) := by
 cases o with
 | none => trivial
 | some c => exact gC _
theorem Ej {n : Nat} {a b c : Int} {ls : List Ln} {cs : List Ct} : KpC n (uI a b c ls cs) := fun x hx => by
 simp only [List.mem_cons, List.not_mem_nil, or_false] at hx
 rcases hx with rfl | rfl | rfl | rfl | rfl | rfl
 all_goals first | exact Kp.pu _ (aB _) | exact Kp.pu _ (aE _) | exact Kp.pu _ trivial
theorem rA {n : Nat} {d : D} (h : Pu d) : KpC n (.cells false [.o d 0] 1) := fun x hx => by
 rw [List.mem_singleton.1 hx]; exact Kp.pu _ h
theorem OE (e many n : Nat) (hn : 5 <= n) (o : Option Nat) : KpC n (Zb e many o) := by
 cases o with
 | none => exact Kf e many n hn
 | some S => exact Kf e many n hn
theorem XU {n : Nat} {x1 x2 x3 x4 : C} (hn : 5 <= n) (h1 : KpC n x1) (h2 : KpC n x2) (h3 : KpC n x3) (h4 : KpC n x4) : KpO n (NG x1 x2 x3 x4) := by
 show TAll (fun id c => id.nat < n /\ KpC n c) _
 unfold NG
 refine TAll.some (TAll.some (TAll.some TAll.e ⟨?_, h4⟩ TAll.e) ⟨?_, h2⟩ TAll.e) ⟨?_, h1⟩ (TAll.some TAll.e ⟨?_, h3⟩ TAll.e)
 all_goals simp [Pos.nat]
 all_goals omega
theorem oA (n coin box : Int) (ls : List Ln) (cs : List Ct) (many : Nat) (o : Option Nat) : KpO (Pos.i (.o .h)).nat (Lx n coin box ls cs many o) :=
 XU (Nat.le_refl _) Ej (rA (QG _ _)) (rA trivial) (OE _ _ _ (Nat.le_refl _) _)
theorem Oa {n coin box : Int} {ls : List Ln} {cs : List Ct} (V : VB (B5 n coin box ls cs)) (many c : Nat) : RndOk Try.prog (.o (.o .h)) [lZ (iA c ls.length)] (Lx n coin box ls cs many none) (.i (.o .h)) none (.b (!yU (B5 n coin box ls cs) c)) (Lx n coin box ls cs many (bif yU (B5 n coin box ls cs) c then some c else none)) (.i (.o .h)) none := by
 have h8 : ls.length <= 8 := V.len
 have h4 : cs.length <= 4 := V.clen
 have hca : ∀ k ∈ cs, 0 <= k.a /\ k.a <= (ls.length : Int) := V.cs
 have cw := FU n coin box ls cs (iA c ls.length) (by have := Kt c ls.length; omega) (LF _ _) (by omega) (by omega) (fun k hk => by have := hca k hk; omega)
 rw [LM, List.map_congr_left (fun k hk => LU (c := c) (hca k hk))] at cw
 obtain ⟨M', hM', Hh⟩ := mG (V.keep (qP ls.length c)) [] (MOk.nil _)
 have hp : yU (B5 n coin box ls cs) c = lI (yI (qP ls.length c) (B5 n coin box ls cs)) := rfl
 have hB : yI (qP ls.length c) (B5 n coin box ls cs) = B5 n coin box (kO (qP ls.length c) ls) (cs.map (qX (qP ls.length c))) := rfl
 rw [hp]
 rw [hB] at Hh ⊢
 generalize hb : lI (B5 n coin box (kO (qP ls.length c) ls) (cs.map (qX (qP ls.length c)))) = bb at Hh ⊢
 have hD : Ru ls.length (some c) = lZ (iA c ls.length) := rfl
 generalize hS : iA c ls.length = S at cw hD ⊢
 have hres : ∀ b : Bool, b = bb -> ∀ (ob : T C), T.le (Lx n coin box ls cs many (bif b then some c else none)) ob -> T.le (Lx n coin box ls cs many (bif bb then some c else none)) ob := fun b h ob k => by rw [<- h]; exact k
 have e1 : ∀ x, kO (qP ls.length c) ls = x -> True := fun _ _ => trivial
 generalize kO (qP ls.length c) ls = ls' at *
 generalize cs.map (qX (qP ls.length c)) = cs' at *
 have K := oA n coin box ls cs many (bif bb then some c else none)
 rcases S with _ | ⟨a, l⟩
 all_goals
  refine RndOk.ofW ?_
  refine WRnd.run rfl Gb Gi ⟨_, rfl, ?_⟩
  unfold Lx NG
  conv => whnf
  refine Qg ?_
  refine ⟨rfl, rfl, _, _, _, _, _, _, rfl, ?_⟩
  conv => whnf
  repeat' ((first | refine Qz ?_ | refine Qf cw ?_) <;> conv => whnf)
  refine WCall.of (oI (B := B5 n coin box ls' cs')) ?_; conv => whnf
  refine Qg ?_
  refine WCall.of (CallOk.mapAt Hh trivial (id := .i (.o .h)) rfl (show 5 < 6 from by decide) (jX trivial)) ?_; conv => whnf
  refine Qg ?_
  cases bb
  ·refine WB.ff ?_; conv => whnf
   refine Qg ?_
   refine ⟨_, _, _, _, _, _, _, _, .i (.o .h), rfl, rfl, ?_, Nat.le_refl _, rfl⟩
   refine Shr.kp ?_ K
   show T.le (NG _ _ _ _) _
   unfold NG
   exact eN
  ·refine WB.tt ?_; conv => whnf
   refine Qg ?_
   refine ⟨_, _, _, _, _, _, _, _, .i (.o .h), rfl, rfl, ?_, Nat.le_refl _, rfl⟩
   refine Shr.kp ?_ K
   show T.le (NG (uI n coin box ls cs) (.cells false [.o (Ru ls.length (some c)) 0] 1) _ _) _
   rw [hD]
   unfold NG
   exact eN
theorem Ce {nx : Pos} {a b : T C} (ha : KpO nx.nat a) (hb : KpO nx.nat b) : Beside nx b a b := ⟨fun _ _ _ h => h, fun id hle => by
 have e : ∀ {t : T C}, KpO nx.nat t -> t.get id = none := fun {t} ht => by
  cases hg : t.get id with
  | none => rfl
  | some c => have := (ht id c hg).1; omega
 rw [e ha, e hb]⟩
def TV : Nat -> Int
 | 0 => -1
 | c + 1 => (c : Int)
theorem Tp (c : Nat) : TV (c + 1) = (c : Int) := rfl
theorem Ge {Q : Nat -> Bool} (c : Nat) : lP Q (c + 1) = if Q c = true then some c else lP Q c := rfl
theorem Mw {e c : Nat} (he : e <= 8) (h : c < 2 ^ e) : c < 256 := Nat.lt_of_lt_of_le h (show 2 ^ e <= 2 ^ 8 from Nat.pow_le_pow_right (by omega) he)
theorem HC (e many : Int) (c : Nat) : ∀ s d, ((.n (.n .e (some (.pl [.i .i64 e] 0)) .e) (some (.yl (.o (.o .h)))) (.n (.n .e (some (.i .i64 (TV c))) .e) (some (.pl [.i .i64 many] 0)) .e)) : T D).get s = some d -> Kp (Pos.i (.o .h)).nat d := by
 show TAll (fun _ d => Kp _ d) _
 repeat' first | exact TAll.e | refine TAll.some ?_ ?_ ?_ | refine TAll.none ?_ ?_
 all_goals simp [Kp, KpL, Pu, aO, Pos.nat]
theorem Lq {n coin box : Int} {ls : List Ln} {cs : List Ct} (V : VB (B5 n coin box ls cs)) (many : Nat) : CallOk Try.prog p141.ix [.yl (.o (.o .h)), .pl [.i .i64 (ls.length : Int)] 0, .pl [.i .i64 (many : Int)] 0] (Lx n coin box ls cs many none) (.i (.o .h)) none (.tp []) (Lx n coin box ls cs many (lP (yH (yU (B5 n coin box ls cs)) many) (2 ^ ls.length))) (.i (.o .h)) none := by
 have h8 : ls.length <= 8 := V.len
 have hpow : 2 ^ ls.length <= 256 := show 2 ^ ls.length <= 2 ^ 8 from Nat.pow_le_pow_right (by omega) h8
 have hpos : 0 < 2 ^ ls.length := Nat.two_pow_pos _
 refine CallOk.run UL (by simp) (Nat.le_refl _) ?_; conv => whnf
 refine Qg ?_
 refine WSt.shlU (a := 1) (j := ls.length) (by rfl) (by rfl) (by omega) (by omega) ?_; conv => whnf
 refine Qg ?_
 have hc0 : ((1 * 2 ^ ls.length : Nat) : Int) - 1 = TV (2 ^ ls.length) := by
  obtain ⟨c, hc⟩ : ∃ c, 2 ^ ls.length = c + 1 := ⟨2 ^ ls.length - 1, by omega⟩
  rw [Nat.one_mul, hc]
  show ((c + 1 : Nat) : Int) - 1 = (c : Int)
  omega
 rw [hc0]
 generalize hN : 2 ^ ls.length = N at *
 refine Rn.loop (fun n' : Nat => ⟨(.n (.n .e (some (.pl [.i .i64 (ls.length : Int)] 0)) .e) (some (.yl (.o (.o .h)))) (.n (.n .e (some (.i .i64 (TV n'))) .e) (some (.pl [.i .i64 (many : Int)] 0)) .e)), Lx n coin box ls cs many none, .i (.o .h), none⟩) (fun n' => n' <= N /\ lP (yH (yU (B5 n coin box ls cs)) many) N = lP (yH (yU (B5 n coin box ls cs)) many) n') (fun n' => n') N ?_ ?_ ?_
 ·refine X.le.mk ?_ (T.le_refl _) (Nat.le_refl _) rfl rfl
  exact eN
 ·exact ⟨Nat.le_refl _, rfl⟩
 rintro n' ⟨hn', hf⟩
 rw [hf]
 cases n' with
 | zero =>
   conv => whnf
   refine Qg ?_
   refine WB.mk (fun h => ?_) (fun h => ?_) <;> conv => whnf
   ·exact absurd h (by decide)
   refine Qg ?_
   exact ⟨.inl rfl, ⟨_, rfl, .pu trivial⟩, Shr.kp (T.le_refl _) (oA _ _ _ _ _ _ _)⟩
 | succ c =>
   have hcN : c < N := by have hn' : c + 1 <= N := hn'; omega
   have hc256 : c < 256 := by omega
   have iC := VS c hc256
   have iN := Gk c ls.length hc256 h8
   have hQ : yH (yU (B5 n coin box ls cs)) many c = (decide (fY c = many) && yU (B5 n coin box ls cs) c) := rfl
   have hsc := Ge (Q := yH (yU (B5 n coin box ls cs)) many) c
   rw [hQ] at hsc
   have hR := Oa V many c
   have hz : (c : Int) - 1 = TV c := by
    cases c with
    | zero => rfl
    | succ c => show ((c + 1 : Nat) : Int) - 1 = (c : Int); omega
   simp only [Tp]
   conv => whnf
   refine Qg ?_
   refine WB.mk (fun h => ?_) (fun h => ?_) <;> conv => whnf
   ·refine Qg ?_
    refine And.intro (InR.u64 (by omega) (by omega)) ?_; conv => whnf
    repeat' ((first | refine Qz ?_ | refine Qf iC ?_) <;> conv => whnf)
    by_cases he : fY c = many
    ·rw [decide_eq_true he, Bool.true_and] at hsc
     subst he
     repeat' ((first | refine Qw ?_ | refine Qf iN ?_ | refine Qd (fun h => ?_) (fun h => ?_)) <;> conv => whnf)
     refine WRnd.fr hR (by decide) (T.le_refl _) (oA _ _ _ _ _ _ _) ⟨Kp.pu _ (gC _), trivial⟩ (Ce (oA _ _ _ _ _ _ _) (oA _ _ _ _ _ _ _)) (Nat.le_refl _) Fv (fun id h => DP (Nat.lt_trans h (by decide))) ?_
     cases hp : yU (B5 n coin box ls cs) c with
     | true =>
       rw [hp, if_pos rfl] at hsc
       conv => whnf
       repeat' ((first | refine WB.tt ?_ | refine WB.ff ?_ | refine Rn.seq ?_ | refine Rn.reg ?_ | refine Rn.blk ?_ | refine Rn.skip ?_ | refine Rn.ret ?_ | refine Qk rfl ?_ | refine And.intro (InR.i64 (by omega) (by omega)) ?_) <;> conv => whnf)
       rw [hsc]
       exact ⟨.inr rfl, ⟨_, rfl, .pu trivial⟩, Shr.kp (T.le_refl _) (oA _ _ _ _ _ _ _)⟩
     | false =>
       rw [hp, if_neg (by decide)] at hsc
       conv => whnf
       repeat' ((first | refine WB.tt ?_ | refine WB.ff ?_ | refine Rn.seq ?_ | refine Rn.reg ?_ | refine Rn.blk ?_ | refine Rn.skip ?_ | refine Rn.ret ?_ | refine Qk rfl ?_ | refine And.intro (InR.i64 (by omega) (by omega)) ?_) <;> conv => whnf)
       refine Again.to c (Nat.lt_succ_self c) ⟨by show c <= N; omega, hsc⟩ (Nat.le_refl _) (Shr.kp2 ?_ ?_ (T.le_refl _) (oA _ _ _ _ _ _ _))
       ·rw [<- hz]
        exact eN
       ·exact HC _ _ _
    ·rw [decide_eq_false he, Bool.false_and, if_neg (by decide)] at hsc
     repeat' ((first | refine Qw ?_ | refine Qd (fun h => ?_) (fun h => ?_)) <;> conv => whnf)
     refine Again.to c (Nat.lt_succ_self c) ⟨by show c <= N; omega, hsc⟩ (Nat.le_refl _) (Shr.kp2 ?_ ?_ (T.le_refl _) (oA _ _ _ _ _ _ _))
     ·rw [<- hz]
      exact eN
     ·exact HC _ _ _
   ·exfalso
    revert h
    simp
theorem Pg (en many : Int) : PureF Try.prog p124.ix [.i .i64 en, .i .i64 many] (.fn p141 [] [.pl [.i .i64 en] 0, .pl [.i .i64 many] 0]) := by
 refine PureF.run Vg (by simp) (by simp [aO, dF, Pu]) ?_; conv => whnf
 refine Qg ?_
 refine Fin.t (.inr rfl) rfl ?_
 exact .fn .nil (.cons (Frz.ptr rfl rfl (by simp) (by simp [aO, Pu])) (.cons (Frz.ptr rfl rfl (by simp) (by simp [aO, Pu])) .nil))
def PI (e many : Nat) : T D := (.n (.n (.n .e (some (.pt (.i .h) 0 0)) (.n .e (some (.i .i64 (many : Int))) .e)) (some (.pt .h 0 0)) .e) none (.n .e (some (.pt (.o .h) 0 0)) (.n (.n .e (some (.i .i64 ((e : Int) + 1))) .e) none .e)))
def CA (x1 x2 x3 : C) : T C := .n (.n .e (some x2) .e) (some x1) (.n .e (some x3) .e)
theorem PF (e many n : Nat) (hn : 4 <= n) : ∀ s d, (PI e many).get s = some d -> Kp n d := by
 show TAll (fun _ d => Kp n d) (PI e many)
 unfold PI
 repeat' first | exact TAll.e | refine TAll.some ?_ ?_ ?_ | refine TAll.none ?_ ?_
 all_goals simp [Kp, KpL, Pu, aO, Pos.nat]
 all_goals omega
theorem Um {n : Nat} {x1 x2 x3 : C} (hn : 4 <= n) (h1 : KpC n x1) (h2 : KpC n x2) (h3 : KpC n x3) : KpO n (CA x1 x2 x3) := by
 show TAll (fun id c => id.nat < n /\ KpC n c) _
 unfold CA
 refine TAll.some (TAll.some TAll.e ⟨?_, h2⟩ TAll.e) ⟨?_, h1⟩ (TAll.some TAll.e ⟨?_, h3⟩ TAll.e)
 all_goals simp [Pos.nat]
 all_goals omega
theorem Jj {P : Nat -> Bool} {e m : Nat} (h : (List.range m).findSome? (fun k => lP (yH P k) (2 ^ e)) = none) : (List.range (m + 1)).findSome? (fun k => lP (yH P k) (2 ^ e)) = lP (yH P m) (2 ^ e) := by
 rw [List.range_succ, List.findSome?_append, h]
 simp
theorem Jb {P : Nat -> Bool} {e m c : Nat} (hm : m <= e) (h : (List.range (m + 1)).findSome? (fun k => lP (yH P k) (2 ^ e)) = some c) : MQ e P = some c := by
 unfold MQ
 obtain ⟨d, hd⟩ : ∃ d, e + 1 = (m + 1) + d := ⟨e - m, by omega⟩
 rw [hd, List.range_add, List.findSome?_append, h]
 rfl
theorem Dv {n coin box : Int} {ls : List Ln} {cs : List Ct} (V : VB (B5 n coin box ls cs)) : PureF Try.prog p95.ix [.ag [.i .i64 n, .i .i64 coin, .i .i64 box, .lst 3 (aC aI ls), .lst 3 (aC cY cs), .any]] (.tp [Ru ls.length (MQ ls.length (yU (B5 n coin box ls cs))), .b (MQ ls.length (yU (B5 n coin box ls cs))).isSome]) := by
 have e2 := aD aI ls
 have h8 : ls.length <= 8 := V.len
 refine PureF.run Xt (by simp) (by simp [aO, dF, Pu, aB, aE]) ?_; conv => whnf
 refine Qg ?_
 refine Rn.loop (fun many : Nat => ⟨PI ls.length many, CA (uI n coin box ls cs) (.cells false [.o .ns 0] 1) (.cells false [.o (.b false) 0] 1), .o (.o .h), none⟩) (fun many => many <= ls.length + 1 /\ (List.range many).findSome? (fun k => lP (yH (yU (B5 n coin box ls cs)) k) (2 ^ ls.length)) = none) (fun many => ls.length + 1 - many) 0 ?_ ?_ ?_
 ·refine X.le.mk ?_ ?_ (Nat.le_refl _) rfl rfl
  ·unfold PI
   rw [<- e2]
   exact eN
  ·unfold CA
   exact eN
 ·exact ⟨Nat.zero_le _, rfl⟩
 rintro many ⟨hj, h0⟩
 have hj : many <= ls.length + 1 := hj
 have hS := Jj h0
 have cs' := Pg (ls.length : Int) (many : Int)
 rw [<- e2] at cs'
 conv => whnf
 refine Qg ?_
 refine WB.dec (fun h => ?_) (fun h => ?_) <;> conv => whnf
 ·have hlt : many <= ls.length := by have h : (many : Int) < (ls.length : Int) + 1 := h; omega
  have C := Lq V many
  repeat' ((first | refine Qz ?_ | refine Qf (cs') ?_) <;> conv => whnf)
  refine Rn.le (a := ⟨OO ls.length many, CA (uI n coin box ls cs) (.cells false [.o .ns 0] 1) (.cells false [.o (.b false) 0] 1), .o (.o .h), none⟩) ?_ ?_
  ·cases hF : lP (yH (yU (B5 n coin box ls cs)) many) (2 ^ ls.length) with
   | none =>
     rw [hF] at C hS
     refine Rn.rf rfl rfl C rfl (by simp) ?_; conv => whnf
     refine Qg ?_
     refine Again.to (many + 1) (by omega) ⟨by omega, hS⟩ (Nat.le_refl _) (Shr.kp2 ?_ (PF _ _ _ (Nat.le_refl _)) ?_ (Um (Nat.le_refl _) Ej (rA trivial) (rA trivial)))
     ·show T.le (PI ls.length (many + 1)) _
      unfold PI
      simp only [Int.natCast_add, Int.natCast_one]
      exact eN
     ·show T.le (CA _ _ _) _
      unfold CA
      exact eN
   | some c =>
     rw [hF] at C hS
     have hall := Jb hlt hS
     rw [hall]
     have hD : Ru ls.length (some c) = lZ (iA c ls.length) := rfl
     refine Rn.rf rfl rfl C rfl (by simp) ?_; conv => whnf
     refine Qg ?_
     rw [hD]
     rcases iA c ls.length with _ | ⟨a, l⟩
     all_goals
      refine Qg ?_
      exact ⟨.inr rfl, _, rfl, .tp (.cons (.pu (gC _)) (.cons (.pu trivial) .nil))⟩
  ·refine X.le.mk ?_ ?_ (Nat.le_refl _) rfl rfl
   ·unfold OO
    rw [<- e2]
    exact eN
   ·unfold CA
    exact eN
 ·refine Qg ?_
  have hm : many = ls.length + 1 := by have h : ¬ (many : Int) < (ls.length : Int) + 1 := h; omega
  subst hm
  rw [show MQ ls.length (yU (B5 n coin box ls cs)) = none from h0]
  refine Qg ?_
  exact ⟨.inr rfl, _, rfl, .tp (.cons (.pu trivial) (.cons (.pu trivial) .nil))⟩
def Gv (B : Bk) : Option Nat := MQ B.ls.length (yU B)
def Gc (n coin box : Int) (ls : List Ln) (cs : List Ct) : D :=
 if aS n coin box ls cs = 0 then (match Gv (B5 n coin box ls cs) with | some c => .tp [lZ (iA c ls.length), .i .i64 0] | none => .tp [.ns, .i .i64 10]) else .tp [.ns, .i .i64 (aS n coin box ls cs)]
theorem NV {B : Bk} {id : Pos} : ∀ γ w, CvL γ γ w [.ag (gI B ++ [.mp id])] [.ag (gI B ++ [.any])] := fun γ w => .cons (.ag (.app (.pu (fun _ h => h) (jP B)) rfl (.cons .any .nil))) .nil
theorem JK (n coin box : Int) (ls : List Ln) (cs : List Ct) : PureF Try.prog p48.ix [.ag [.i .i64 n, .i .i64 coin, .i .i64 box, .lst 3 (aC aI ls), .lst 3 (aC cY cs)]] (Gc n coin box ls cs) := by
 have iC := fN n coin box ls cs
 refine PureF.run YT (by simp) (by simp [aO, dF, Pu, aH, aB, aE]) ?_; conv => whnf
 by_cases hf : aS n coin box ls cs = 0
 ·have V := VB.of hf
  have hR : Gc n coin box ls cs = (match Gv (B5 n coin box ls cs) with | some c => .tp [lZ (iA c ls.length), .i .i64 0] | none => .tp [.ns, .i .i64 10]) := by unfold Gc; rw [if_pos hf]
  rw [hf] at iC
  rw [hR]
  have iS := fun id => (Dv V).sub (NV (B := B5 n coin box ls cs) (id := id))
  have hl : MQ ls.length (yU (B5 n coin box ls cs)) = Gv (B5 n coin box ls cs) := rfl
  rw [hl] at iS
  repeat' ((first | refine Qw ?_ | refine Qf iC ?_ | refine Qd (fun h => ?_) (fun h => ?_)) <;> conv => whnf)
  refine WCall.of (oI (B := B5 n coin box ls cs)) ?_; conv => whnf
  refine Qg ?_
  refine Qf (iS _) ?_; conv => whnf
  cases Gv (B5 n coin box ls cs) with
  | none =>
    refine Qg ?_
    refine WB.tt ?_; conv => whnf
    refine Qg ?_
    exact Fin.two (.inr rfl) (show T.get _ _ = some D.ns from rfl) (show T.get _ _ = some (D.i .i64 10) from rfl) (.pu trivial) (.pu trivial)
  | some c =>
    refine Qg ?_
    refine WB.ff ?_; conv => whnf
    refine Qg ?_
    show Fin _ (D.tp [lZ (iA c ls.length), D.i .i64 0]) _ _
    exact Fin.two (.inr rfl) (show T.get _ _ = some (lZ (iA c ls.length)) from rfl) (show T.get _ _ = some (D.i .i64 0) from rfl) (.pu (gC _)) (.pu trivial)
 ·have hR : Gc n coin box ls cs = .tp [.ns, .i .i64 (aS n coin box ls cs)] := by unfold Gc; rw [if_neg hf]
  rw [hR]
  generalize aS n coin box ls cs = f at *
  repeat' ((first | refine Qw ?_ | refine Qf iC ?_ | refine Qd (fun h => ?_) (fun h => ?_)) <;> conv => whnf)
  all_goals first
   | (exfalso; omega)
   | exact ⟨.inr rfl, _, rfl, .tp (.cons (.pu trivial) (.cons (show Fz _ _ _ (D.i .i64 _) from .pu trivial) .nil))⟩
end Go.Ev
end
