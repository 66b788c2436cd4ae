import Derived.Test.YtjgbfnciedkafaaEvUPl
import Derived.Test.YtjgbfnciedkafaaEvUJ1
set_option linter.all false
namespace Go.Ev
open Go.Proofs
set_option maxRecDepth 100000
noncomputable def bkC (n coin box : Int) (ls : List Ln) (cs : List Ct) : C := .cells false [.o (.i .i64 n) 0, .o (.i .i64 coin) 0, .o (.i .i64 box) 0, .o (.lst 3 (rows lnD ls)) 0, .o (.lst 3 (rows ctD cs)) 0] 1
theorem bkC_kp (n coin box : Int) (ls : List Ln) (cs : List Ct) (m : Nat) : KpC m (bkC n coin box ls cs) := by
  refine KpL.all ?_
  simp [KpL, Kp, Cell.d, Pu, pu_ln, pu_ct]
noncomputable def lnC (l : Ln) : C := .cells false [.o (.i .i64 l.k) 0, .o (.i .i64 l.c) 0, .o (.i .i64 l.t) 0] 1
theorem lnC_kp (l : Ln) (m : Nat) : KpC m (lnC l) := by
  refine KpL.all ?_
  simp [KpL, Kp, Cell.d, Pu]
theorem j_In (n a b : Int) : PureF Try.prog p36.ix [.i .i64 n, .i .i64 a, .i .i64 b] (.b (inR n a b)) := by
  refine PureF.run fn35 (by simp) (by simp [PuL, PuE, Pu]) ?_; conv => whnf
  repeat' first | ((first | with_reducible apply WB.tt | with_reducible apply WB.ff | refine Rn.seq ?_ | refine Rn.reg ?_ | refine Rn.drw ?_ | refine Rn.blk ?_ | refine Rn.skip ?_ | refine Rn.ret ?_ | refine Rn.exit ?_ | refine Rn.cond rfl ?_ | refine And.intro (InR.i64 (by omega) (by omega)) ?_ | refine And.intro (show _ ≠ (0 : Int) by omega) ?_ | refine WIx.intsN (by omega) ?_ | refine WIx.rowsN (by omega) ?_ | with_reducible refine WB.dec (fun h => ?_) (fun h => ?_) | with_reducible refine WB.ndec (fun h => ?_) (fun h => ?_) | refine WB.mk (fun h => ?_) (fun h => ?_)) <;> conv => whnf)
  all_goals
    refine Fin.b rfl ?_
    unfold inR
    first
      | exact (decide_eq_false (by omega)).symm
      | (congr 1; apply propext; constructor <;> intro hh <;> omega)
theorem j_Agrees (l x : Ln) : PureF Try.prog p84.ix [.ag (lnD l), .ag (lnD x)] (.b (agB l x)) := by
  obtain ⟨a, b, c⟩ := l
  obtain ⟨a', b', c'⟩ := x
  refine PureF.run fn83 (by simp) (by simp [PuL, PuE, Pu, lnD]) ?_; conv => whnf
  repeat' first | ((first | with_reducible apply WB.tt | with_reducible apply WB.ff | refine Rn.seq ?_ | refine Rn.reg ?_ | refine Rn.drw ?_ | refine Rn.blk ?_ | refine Rn.skip ?_ | refine Rn.ret ?_ | refine Rn.exit ?_ | refine Rn.cond rfl ?_ | refine And.intro (InR.i64 (by omega) (by omega)) ?_ | refine And.intro (show _ ≠ (0 : Int) by omega) ?_ | refine WIx.intsN (by omega) ?_ | refine WIx.rowsN (by omega) ?_ | with_reducible refine WB.dec (fun h => ?_) (fun h => ?_) | with_reducible refine WB.ndec (fun h => ?_) (fun h => ?_) | refine WB.mk (fun h => ?_) (fun h => ?_)) <;> conv => whnf)
  all_goals exact Fin.b rfl (by unfold agB; simp_all <;> omega)
def tkL (n : Int) (l : Ln) (i j : Int) : Nat → List Ln
  | 0 => []
  | k + 1 => tkL n l i j k ++ bif agB l ⟨i, j, (k : Int)⟩ then [⟨i, j, (k : Int)⟩] else []
def chL3 (n : Int) (l : Ln) (i : Int) : Nat → List Ln
  | 0 => []
  | j + 1 => chL3 n l i j ++ tkL n l i (j : Int) n.toNat
def kdL (n : Int) (l : Ln) : Nat → List Ln
  | 0 => []
  | i + 1 => kdL n l i ++ chL3 n l ((i : Int) + 1) n.toNat
def readL (n : Int) (l : Ln) : List Ln := kdL n l 2
theorem tkL_len (n : Int) (l : Ln) (i j : Int) : ∀ k, (tkL n l i j k).length ≤ k
  | 0 => Nat.le_refl _
  | k + 1 => by
    have := tkL_len n l i j k
    unfold tkL
    rw [List.length_append]
    cases agB l ⟨i, j, (k : Int)⟩ <;> simp <;> omega
theorem chL_len (n : Int) (l : Ln) (i : Int) (h4 : n.toNat ≤ 4) : ∀ j, (chL3 n l i j).length ≤ j * 4
  | 0 => Nat.le_refl _
  | j + 1 => by
    have := chL_len n l i h4 j
    have := tkL_len n l i (j : Int) n.toNat
    unfold chL3
    rw [List.length_append]
    omega
theorem kdL_len (n : Int) (l : Ln) (h4 : n.toNat ≤ 4) : ∀ i, (kdL n l i).length ≤ i * 16
  | 0 => Nat.le_refl _
  | i + 1 => by
    have := kdL_len n l h4 i
    have := chL_len n l ((i : Int) + 1) h4 n.toNat
    unfold kdL
    rw [List.length_append]
    omega
theorem read_tab : ∀ n ∈ [(1 : Int), 2, 3, 4], ∀ k ∈ [(0 : Int), 1, 2], ∀ c ∈ [(-1 : Int), 0, 1, 2, 3], ∀ t ∈ [(-1 : Int), 0, 1, 2, 3], (c < n && t < n) = true → decide (((readL n ⟨k, c, t⟩).length : Int) = rdN n ⟨k, c, t⟩) = true := by decide +kernel
theorem read_len {n : Int} {l : Ln} (hn : 1 ≤ n ∧ n ≤ 4) (hl : lnOk n l = true) : ((readL n l).length : Int) = rdN n l := by
  obtain ⟨k, c, t⟩ := l
  unfold lnOk at hl
  rw [Bool.and_eq_true, Bool.and_eq_true, inR_iff, inR_iff, inR_iff] at hl
  obtain ⟨h1, h2, h3⟩ := hl
  have h1 : 0 ≤ k ∧ k ≤ 2 := h1
  have h2 : -1 ≤ c ∧ c ≤ n - 1 := h2
  have h3 : -1 ≤ t ∧ t ≤ n - 1 := h3
  have mn : n ∈ [(1 : Int), 2, 3, 4] := by
    have : n = 1 ∨ n = 2 ∨ n = 3 ∨ n = 4 := by omega
    rcases this with rfl | rfl | rfl | rfl <;> simp
  have mk : k ∈ [(0 : Int), 1, 2] := by
    have : k = 0 ∨ k = 1 ∨ k = 2 := by omega
    rcases this with rfl | rfl | rfl <;> simp
  have mc : c ∈ [(-1 : Int), 0, 1, 2, 3] := by
    have : c = -1 ∨ c = 0 ∨ c = 1 ∨ c = 2 ∨ c = 3 := by omega
    rcases this with rfl | rfl | rfl | rfl | rfl <;> simp
  have mt : t ∈ [(-1 : Int), 0, 1, 2, 3] := by
    have : t = -1 ∨ t = 0 ∨ t = 1 ∨ t = 2 ∨ t = 3 := by omega
    rcases this with rfl | rfl | rfl | rfl | rfl <;> simp
  exact of_decide_eq_true (read_tab n mn k mk c mc t mt (by rw [Bool.and_eq_true, decide_eq_true_iff, decide_eq_true_iff]; omega))
def lnF (A : List Ln) : List D := (rows lnD A).flatten
theorem lnF_len (A : List Ln) : (lnF A).length = A.length * 3 := by
  induction A with
  | nil => rfl
  | cons a A ih => unfold lnF rows at *; rw [List.map_cons, List.flatten_cons, List.length_append, ih, List.length_cons]; simp [lnD]; omega
theorem lnF_pu (A : List Ln) : PuL (lnF A) := PuL_iff.2 fun d hd => by
  obtain ⟨r, hr, hd⟩ := List.mem_flatten.1 hd
  exact PuL_iff.1 (PuE_iff.1 (pu_ln A) r hr) d hd
theorem lnF_snoc (A : List Ln) (x : Ln) : lnF (A ++ [x]) = lnF A ++ lnD x := by simp [lnF, rows]
theorem lnF_kp (n st m : Nat) (A : List Ln) : KpC n (.cells false ((lnF A).map fun d => Cell.o d st) m) := fun c hc => by
  obtain ⟨d, hd, rfl⟩ := List.mem_map.1 hc
  obtain ⟨r, hr, hd⟩ := List.mem_flatten.1 hd
  obtain ⟨x, _, rfl⟩ := List.mem_map.1 hr
  simp only [lnD, List.mem_cons, List.not_mem_nil, or_false] at hd
  rcases hd with rfl | rfl | rfl <;> simp [Kp, Cell.d, Pu]
def slK : List Ln → D
  | [] => .ns
  | _ :: s => .sl (.o (.o .h)) 0 (s.length + 1) s.length 3
def blK : List Ln → Option C
  | [] => none
  | a :: s => some (.cells false ((lnF (a :: s)).map fun d => Cell.o d s.length) (s.length + 1))
def nxK : List Ln → Pos
  | [] => .i .h
  | _ :: _ => .i (.o .h)
noncomputable def obK (B L : C) (A : List Ln) : T C := .n (.n (.n .e (blK A) .e) (some L) .e) (some B) .e
theorem nxK_up (A A' : List Ln) : (nxK A).nat ≤ (nxK (A ++ A')).nat := by
  cases A with
  | nil => cases A' <;> simp [nxK, Pos.nat]
  | cons a A => simp [nxK]
theorem nxK_two (A : List Ln) : 3 ≤ (nxK A).nat := by cases A <;> simp [nxK, Pos.nat]
theorem slK_kp (A : List Ln) : Kp (nxK A).nat (slK A) := by
  cases A <;> simp [slK, nxK, Kp, Pos.nat, Pu]
theorem obK_kp {B L : C} (A : List Ln) (hB : ∀ m, KpC m B) (hL : ∀ m, KpC m L) : KpO (nxK A).nat (obK B L A) := by
  cases A with
  | nil =>
    show TAll (fun id c => id.nat < 3 ∧ KpC 3 c) _
    unfold obK blK
    exact TAll.some (TAll.some (TAll.none TAll.e TAll.e) ⟨by simp [Pos.nat], hL _⟩ TAll.e) ⟨by simp [Pos.nat], hB _⟩ TAll.e
  | cons a s =>
    show TAll (fun id c => id.nat < 5 ∧ KpC 5 c) _
    unfold obK blK
    exact TAll.some (TAll.some (TAll.some TAll.e ⟨by simp [Pos.nat], lnF_kp _ _ _ _⟩ TAll.e) ⟨by simp [Pos.nat], hL _⟩ TAll.e) ⟨by simp [Pos.nat], hB _⟩ TAll.e
set_option maxHeartbeats 2000000 in
theorem j_Readings (n coin box : Int) (ls : List Ln) (cs : List Ct) (l : Ln) (hn : 0 ≤ n ∧ n ≤ 4) : PureF Try.prog p93.ix [.ag (bk5 n coin box ls cs), .ag (lnD l)] (.lst 3 (rows lnD (readL n l))) := by
  have hn0 : ((n.toNat : Nat) : Int) = n := by omega
  have h4 : n.toNat ≤ 4 := by omega
  obtain ⟨N, hN⟩ : ∃ N : Nat, N = n.toNat := ⟨_, rfl⟩
  have kpB := bkC_kp n coin box ls cs
  have kpL := lnC_kp l
  refine PureF.run fn92 (by simp) (by simp [PuL, PuE, Pu, bk5, lnD, pu_ln, pu_ct]) ?_; conv => whnf
  repeat' first | ((first | with_reducible apply WB.tt | with_reducible apply WB.ff | refine Rn.seq ?_ | refine Rn.reg ?_ | refine Rn.drw ?_ | refine Rn.blk ?_ | refine Rn.skip ?_ | refine Rn.ret ?_ | refine Rn.exit ?_ | refine Rn.cond rfl ?_ | refine And.intro (InR.i64 (by omega) (by omega)) ?_ | refine And.intro (show _ ≠ (0 : Int) by omega) ?_ | refine WIx.intsN (by omega) ?_ | refine WIx.rowsN (by omega) ?_) <;> conv => whnf)
  refine Rn.loop (fun i : Nat => ⟨(.n (.n (.n .e (some (.pt (.o .h) 0 0)) .e) none (.n .e (some (slK (kdL n l i))) .e)) none (.n .e (some (.pt .h 0 0)) (.n .e (some (.i .i64 ((i : Int) + 1))) .e))), obK (bkC n coin box ls cs) (lnC l) (kdL n l i), nxK (kdL n l i), none⟩) (fun i => i ≤ 2) (fun i => 2 - i) 0 ?_ ?_ ?_
  · refine X.le.mk ?_ ?_ (Nat.le_refl _) rfl rfl
    · show T.le ((.n (.n (.n .e (some (.pt (.o .h) 0 0)) .e) none (.n .e (some (.ns)) .e)) none (.n .e (some (.pt .h 0 0)) (.n .e (some (.i .i64 1)) .e))) : T D) _
      (repeat' first | exact T.le_e _ | refine T.le_some ?_ rfl ?_ | refine T.le_none ?_ ?_)
    · show T.le (T.n (.n (.n .e none .e) (some (lnC l)) .e) (some (bkC n coin box ls cs)) .e : T C) _
      (repeat' first | exact T.le_e _ | refine T.le_some ?_ rfl ?_ | refine T.le_none ?_ ?_ | refine T.le_ee ?_ ?_)
  · omega
  intro i hi
  have hi : i ≤ 2 := hi
  have hiA := kdL_len n l h4 i
  have hiE : i = 2 → kdL n l i = readL n l := fun e => by rw [e]; rfl
  have hiN : kdL n l (i + 1) = kdL n l i ++ chL3 n l ((i : Int) + 1) n.toNat := rfl
  generalize hA : kdL n l i = A at *
  conv => whnf
  repeat' first | ((first | with_reducible apply WB.tt | with_reducible apply WB.ff | refine Rn.seq ?_ | refine Rn.reg ?_ | refine Rn.drw ?_ | refine Rn.blk ?_ | refine Rn.skip ?_ | refine Rn.ret ?_ | refine Rn.exit ?_ | refine Rn.cond rfl ?_ | refine And.intro (InR.i64 (by omega) (by omega)) ?_ | refine And.intro (show _ ≠ (0 : Int) by omega) ?_ | refine WIx.intsN (by omega) ?_ | refine WIx.rowsN (by omega) ?_) <;> conv => whnf)
  refine WB.dec (fun h => ?_) (fun h => ?_) <;> conv => whnf
  · have hi2 : i < 2 := by omega
    repeat' first | ((first | with_reducible apply WB.tt | with_reducible apply WB.ff | refine Rn.seq ?_ | refine Rn.reg ?_ | refine Rn.drw ?_ | refine Rn.blk ?_ | refine Rn.skip ?_ | refine Rn.ret ?_ | refine Rn.exit ?_ | refine Rn.cond rfl ?_ | refine And.intro (InR.i64 (by omega) (by omega)) ?_ | refine And.intro (show _ ≠ (0 : Int) by omega) ?_ | refine WIx.intsN (by omega) ?_ | refine WIx.rowsN (by omega) ?_) <;> conv => whnf)
    refine Rn.loop (fun j : Nat => ⟨(.n (.n (.n (.n .e (some (.i .i64 (j : Int))) .e) (some (.pt (.o .h) 0 0)) .e) none (.n .e (some (slK (A ++ chL3 n l ((i : Int) + 1) j))) .e)) none (.n .e (some (.pt .h 0 0)) (.n .e (some (.i .i64 ((i : Int) + 1))) .e))), obK (bkC n coin box ls cs) (lnC l) (A ++ chL3 n l ((i : Int) + 1) j), nxK (A ++ chL3 n l ((i : Int) + 1) j), none⟩) (fun j => j ≤ n.toNat) (fun j => n.toNat - j) 0 ?_ ?_ ?_
    · have e0 : A ++ chL3 n l ((i : Int) + 1) 0 = A := List.append_nil A
      simp only [e0]
      refine X.le.mk ?_ (T.le_refl _) (Nat.le_refl _) rfl rfl
      show T.le ((.n (.n (.n (.n .e (some (.i .i64 0)) .e) (some (.pt (.o .h) 0 0)) .e) none (.n .e (some (slK A)) .e)) none (.n .e (some (.pt .h 0 0)) (.n .e (some (.i .i64 ((i : Int) + 1))) .e))) : T D) _
      (repeat' first | exact T.le_e _ | refine T.le_some ?_ rfl ?_ | refine T.le_none ?_ ?_)
    · exact Nat.zero_le _
    intro j hj
    have hj : j ≤ n.toNat := hj
    have hjA := chL_len n l ((i : Int) + 1) h4 j
    have hjE : j = n.toNat → A ++ chL3 n l ((i : Int) + 1) j = kdL n l (i + 1) := fun e => by rw [hiN, e]
    have hjN : A ++ chL3 n l ((i : Int) + 1) (j + 1) = (A ++ chL3 n l ((i : Int) + 1) j) ++ tkL n l ((i : Int) + 1) (j : Int) n.toNat := by
      rw [List.append_assoc]; rfl
    have hBl : (A ++ chL3 n l ((i : Int) + 1) j).length ≤ 1000 := by rw [List.length_append]; omega
    have hupj := nxK_up A (chL3 n l ((i : Int) + 1) j)
    generalize hB : A ++ chL3 n l ((i : Int) + 1) j = B at *
    conv => whnf
    repeat' first | ((first | with_reducible apply WB.tt | with_reducible apply WB.ff | refine Rn.seq ?_ | refine Rn.reg ?_ | refine Rn.drw ?_ | refine Rn.blk ?_ | refine Rn.skip ?_ | refine Rn.ret ?_ | refine Rn.exit ?_ | refine Rn.cond rfl ?_ | refine And.intro (InR.i64 (by omega) (by omega)) ?_ | refine And.intro (show _ ≠ (0 : Int) by omega) ?_ | refine WIx.intsN (by omega) ?_ | refine WIx.rowsN (by omega) ?_) <;> conv => whnf)
    refine WB.dec (fun h => ?_) (fun h => ?_) <;> conv => whnf
    · have hjn : j < n.toNat := by omega
      repeat' first | ((first | with_reducible apply WB.tt | with_reducible apply WB.ff | refine Rn.seq ?_ | refine Rn.reg ?_ | refine Rn.drw ?_ | refine Rn.blk ?_ | refine Rn.skip ?_ | refine Rn.ret ?_ | refine Rn.exit ?_ | refine Rn.cond rfl ?_ | refine And.intro (InR.i64 (by omega) (by omega)) ?_ | refine And.intro (show _ ≠ (0 : Int) by omega) ?_ | refine WIx.intsN (by omega) ?_ | refine WIx.rowsN (by omega) ?_) <;> conv => whnf)
      refine Rn.loop (fun k : Nat => ⟨(.n (.n (.n (.n .e (some (.i .i64 (j : Int))) .e) (some (.pt (.o .h) 0 0)) .e) none (.n .e (some (slK (B ++ tkL n l ((i : Int) + 1) (j : Int) k))) .e)) none (.n (.n (.n .e (some (.i .i64 (k : Int))) .e) none .e) (some (.pt .h 0 0)) (.n .e (some (.i .i64 ((i : Int) + 1))) .e))), obK (bkC n coin box ls cs) (lnC l) (B ++ tkL n l ((i : Int) + 1) (j : Int) k), nxK (B ++ tkL n l ((i : Int) + 1) (j : Int) k), none⟩) (fun k => k ≤ n.toNat) (fun k => n.toNat - k) 0 ?_ ?_ ?_
      · have e0 : B ++ tkL n l ((i : Int) + 1) (j : Int) 0 = B := List.append_nil B
        simp only [e0]
        refine X.le.mk ?_ (T.le_refl _) (Nat.le_refl _) rfl rfl
        show T.le ((.n (.n (.n (.n .e (some (.i .i64 (j : Int))) .e) (some (.pt (.o .h) 0 0)) .e) none (.n .e (some (slK B)) .e)) none (.n (.n (.n .e (some (.i .i64 0)) .e) none .e) (some (.pt .h 0 0)) (.n .e (some (.i .i64 ((i : Int) + 1))) .e))) : T D) _
        (repeat' first | exact T.le_e _ | refine T.le_some ?_ rfl ?_ | refine T.le_none ?_ ?_)
      · exact Nat.zero_le _
      intro k hk
      have hk : k ≤ n.toNat := hk
      have hkA := tkL_len n l ((i : Int) + 1) (j : Int) k
      have hkE : k = n.toNat → B ++ tkL n l ((i : Int) + 1) (j : Int) k = A ++ chL3 n l ((i : Int) + 1) (j + 1) := fun e => by rw [hjN, e]
      have hkN : B ++ tkL n l ((i : Int) + 1) (j : Int) (k + 1) = (B ++ tkL n l ((i : Int) + 1) (j : Int) k) ++ bif agB l ⟨(i : Int) + 1, (j : Int), (k : Int)⟩ then [⟨(i : Int) + 1, (j : Int), (k : Int)⟩] else [] := by
        rw [List.append_assoc]; rfl
      have hCl : (B ++ tkL n l ((i : Int) + 1) (j : Int) k).length ≤ 1004 := by rw [List.length_append]; omega
      have hupk := nxK_up B (tkL n l ((i : Int) + 1) (j : Int) k)
      generalize hC : B ++ tkL n l ((i : Int) + 1) (j : Int) k = E at *
      have hupE := nxK_up E
      have hst : ∀ (E' : List Ln), B ++ tkL n l ((i : Int) + 1) (j : Int) (k + 1) = E' → (⟨(.n (.n (.n (.n .e (some (.i .i64 (j : Int))) .e) (some (.pt (.o .h) 0 0)) .e) none (.n .e (some (slK (B ++ tkL n l ((i : Int) + 1) (j : Int) (k + 1)))) .e)) none (.n (.n (.n .e (some (.i .i64 ((k + 1 : Nat) : Int))) .e) none .e) (some (.pt .h 0 0)) (.n .e (some (.i .i64 ((i : Int) + 1))) .e))), obK (bkC n coin box ls cs) (lnC l) (B ++ tkL n l ((i : Int) + 1) (j : Int) (k + 1)), nxK (B ++ tkL n l ((i : Int) + 1) (j : Int) (k + 1)), none⟩ : X) = ⟨(.n (.n (.n (.n .e (some (.i .i64 (j : Int))) .e) (some (.pt (.o .h) 0 0)) .e) none (.n .e (some (slK E')) .e)) none (.n (.n (.n .e (some (.i .i64 ((k + 1 : Nat) : Int))) .e) none .e) (some (.pt .h 0 0)) (.n .e (some (.i .i64 ((i : Int) + 1))) .e))), obK (bkC n coin box ls cs) (lnC l) E', nxK E', none⟩ := fun E' h => by rw [h]
      have cA := j_Agrees l ⟨(i : Int) + 1, (j : Int), (k : Int)⟩
      conv => whnf
      repeat' first | ((first | with_reducible apply WB.tt | with_reducible apply WB.ff | refine Rn.seq ?_ | refine Rn.reg ?_ | refine Rn.drw ?_ | refine Rn.blk ?_ | refine Rn.skip ?_ | refine Rn.ret ?_ | refine Rn.exit ?_ | refine Rn.cond rfl ?_ | refine And.intro (InR.i64 (by omega) (by omega)) ?_ | refine And.intro (show _ ≠ (0 : Int) by omega) ?_ | refine WIx.intsN (by omega) ?_ | refine WIx.rowsN (by omega) ?_) <;> conv => whnf)
      refine WB.dec (fun h => ?_) (fun h => ?_) <;> conv => whnf
      · have hkn : k < n.toNat := by omega
        cases hag : agB l ⟨(i : Int) + 1, (j : Int), (k : Int)⟩ with
        | true =>
          rw [hag, cond_true] at hkN
          rw [hag] at cA
          cases E with
          | nil =>
            repeat' first | ((first | with_reducible apply WB.tt | with_reducible apply WB.ff | refine Rn.seq ?_ | refine Rn.reg ?_ | refine Rn.drw ?_ | refine Rn.blk ?_ | refine Rn.skip ?_ | refine Rn.ret ?_ | refine Rn.exit ?_ | refine Rn.cond rfl ?_ | refine And.intro (InR.i64 (by omega) (by omega)) ?_ | refine And.intro (show _ ≠ (0 : Int) by omega) ?_ | refine WIx.intsN (by omega) ?_ | refine WIx.rowsN (by omega) ?_ | refine WCall.pure (cA) ?_) <;> conv => whnf)
            refine WSt.app_first (r := lnD ⟨(i : Int) + 1, (j : Int), (k : Int)⟩) rfl (.inl rfl) rfl rfl rfl rfl ?_; conv => whnf
            repeat' first | ((first | with_reducible apply WB.tt | with_reducible apply WB.ff | refine Rn.seq ?_ | refine Rn.reg ?_ | refine Rn.drw ?_ | refine Rn.blk ?_ | refine Rn.skip ?_ | refine Rn.ret ?_ | refine Rn.exit ?_ | refine Rn.cond rfl ?_ | refine And.intro (InR.i64 (by omega) (by omega)) ?_ | refine And.intro (show _ ≠ (0 : Int) by omega) ?_ | refine WIx.intsN (by omega) ?_ | refine WIx.rowsN (by omega) ?_) <;> conv => whnf)
            refine Again.to (k + 1) (by omega) (by omega) ?_ ?_
            · show (nxK (B ++ tkL n l ((i : Int) + 1) (j : Int) k)).nat ≤ (nxK (B ++ tkL n l ((i : Int) + 1) (j : Int) (k + 1))).nat
              rw [hC, hkN]; exact hupE _
            · rw [hst _ hkN]
              refine Shr.of ?_ ?_ rfl rfl
              · show Rel _ _ ((.n (.n (.n (.n .e (some (.i .i64 (j : Int))) .e) (some (.pt (.o .h) 0 0)) .e) none (.n .e (some (.sl (.o (.o .h)) 0 1 0 3)) .e)) none (.n (.n (.n .e (some (.i .i64 ((k + 1 : Nat) : Int))) .e) none .e) (some (.pt .h 0 0)) (.n .e (some (.i .i64 ((i : Int) + 1))) .e))) : T D) _
                (repeat' first | exact Rel.e | refine Rel.some ?_ ?_ ?_ | refine Rel.none ?_ ?_ | refine Rel.ee ?_ ?_)
                all_goals show Fz _ _ _ _
                all_goals first | exact .pu trivial | exact .kpt (show _ < 5 by simp [Pos.nat]) | exact .ksl (show _ < 5 by simp [Pos.nat])
              · show Rel _ _ (T.n (.n (.n .e (some (.cells false ((lnD ⟨(i : Int) + 1, (j : Int), (k : Int)⟩).map fun d => Cell.o d 0) 1)) .e) (some (lnC l)) .e) (some (bkC n coin box ls cs)) .e : T C) _
                (repeat' first | exact Rel.e | refine Rel.some ?_ ?_ ?_ | refine Rel.none ?_ ?_ | refine Rel.ee ?_ ?_)
                all_goals first
                  | exact RO'.of (show _ < 5 by simp [Pos.nat]) (ShC.kp (kpB _))
                  | exact RO'.of (show _ < 5 by simp [Pos.nat]) (ShC.kp (kpL _))
                  | exact RO'.of (show _ < 5 by simp [Pos.nat]) (ShC.same (ShC.cn (.pu trivial) (ShC.cn (.pu trivial) (ShC.cn (.pu trivial) ShC.nl))))
          | cons a s =>
            repeat' first | ((first | with_reducible apply WB.tt | with_reducible apply WB.ff | refine Rn.seq ?_ | refine Rn.reg ?_ | refine Rn.drw ?_ | refine Rn.blk ?_ | refine Rn.skip ?_ | refine Rn.ret ?_ | refine Rn.exit ?_ | refine Rn.cond rfl ?_ | refine And.intro (InR.i64 (by omega) (by omega)) ?_ | refine And.intro (show _ ≠ (0 : Int) by omega) ?_ | refine WIx.intsN (by omega) ?_ | refine WIx.rowsN (by omega) ?_ | refine WCall.pure (cA) ?_) <;> conv => whnf)
            refine WSt.app_one (ds := lnF (a :: s)) (r := lnD ⟨(i : Int) + 1, (j : Int), (k : Int)⟩) rfl rfl rfl rfl rfl rfl (by rw [lnF_len]; rfl) rfl rfl (by simp at hCl; omega) rfl ?_; conv => whnf
            repeat' first | ((first | with_reducible apply WB.tt | with_reducible apply WB.ff | refine Rn.seq ?_ | refine Rn.reg ?_ | refine Rn.drw ?_ | refine Rn.blk ?_ | refine Rn.skip ?_ | refine Rn.ret ?_ | refine Rn.exit ?_ | refine Rn.cond rfl ?_ | refine And.intro (InR.i64 (by omega) (by omega)) ?_ | refine And.intro (show _ ≠ (0 : Int) by omega) ?_ | refine WIx.intsN (by omega) ?_ | refine WIx.rowsN (by omega) ?_) <;> conv => whnf)
            refine Again.to (k + 1) (by omega) (by omega) ?_ ?_
            · show (nxK (B ++ tkL n l ((i : Int) + 1) (j : Int) k)).nat ≤ (nxK (B ++ tkL n l ((i : Int) + 1) (j : Int) (k + 1))).nat
              rw [hC, hkN]; exact hupE _
            · rw [hst _ hkN]
              refine Shr.of ?_ ?_ rfl rfl
              · show Rel _ _ ((.n (.n (.n (.n .e (some (.i .i64 (j : Int))) .e) (some (.pt (.o .h) 0 0)) .e) none (.n .e (some (.sl (.o (.o .h)) 0 ((s ++ [(⟨(i : Int) + 1, (j : Int), (k : Int)⟩ : Ln)]).length + 1) (s ++ [(⟨(i : Int) + 1, (j : Int), (k : Int)⟩ : Ln)]).length 3)) .e)) none (.n (.n (.n .e (some (.i .i64 ((k + 1 : Nat) : Int))) .e) none .e) (some (.pt .h 0 0)) (.n .e (some (.i .i64 ((i : Int) + 1))) .e))) : T D) _
                rw [List.length_append, List.length_singleton]
                (repeat' first | exact Rel.e | refine Rel.some ?_ ?_ ?_ | refine Rel.none ?_ ?_ | refine Rel.ee ?_ ?_)
                all_goals show Fz _ _ _ _
                all_goals first | exact .pu trivial | exact .kpt (show _ < 5 by simp [Pos.nat]) | exact .ksl (show _ < 5 by simp [Pos.nat])
              · show Rel _ _ (T.n (.n (.n .e (some (.cells false ((lnF ((a :: s) ++ [(⟨(i : Int) + 1, (j : Int), (k : Int)⟩ : Ln)])).map fun d => Cell.o d (s ++ [(⟨(i : Int) + 1, (j : Int), (k : Int)⟩ : Ln)]).length) ((s ++ [(⟨(i : Int) + 1, (j : Int), (k : Int)⟩ : Ln)]).length + 1))) .e) (some (lnC l)) .e) (some (bkC n coin box ls cs)) .e : T C) _
                rw [List.length_append, List.length_singleton, lnF_snoc]
                (repeat' first | exact Rel.e | refine Rel.some ?_ ?_ ?_ | refine Rel.none ?_ ?_ | refine Rel.ee ?_ ?_)
                all_goals first
                  | exact RO'.of (show _ < 5 by simp [Pos.nat]) (ShC.kp (kpB _))
                  | exact RO'.of (show _ < 5 by simp [Pos.nat]) (ShC.kp (kpL _))
                  | (refine RO'.of (show _ < 5 by simp [Pos.nat]) ?_
                     refine ShC.grown (by omega) (PuL_iff.2 fun d hd => ?_)
                     rcases List.mem_append.1 hd with hd | hd
                     · exact PuL_iff.1 (lnF_pu _) d hd
                     · simp only [lnD, List.mem_cons, List.mem_nil_iff, or_false] at hd
                       rcases hd with rfl | rfl | rfl <;> exact trivial)
        | false =>
          rw [hag, cond_false, List.append_nil] at hkN
          rw [hag] at cA
          repeat' first | ((first | with_reducible apply WB.tt | with_reducible apply WB.ff | refine Rn.seq ?_ | refine Rn.reg ?_ | refine Rn.drw ?_ | refine Rn.blk ?_ | refine Rn.skip ?_ | refine Rn.ret ?_ | refine Rn.exit ?_ | refine Rn.cond rfl ?_ | refine And.intro (InR.i64 (by omega) (by omega)) ?_ | refine And.intro (show _ ≠ (0 : Int) by omega) ?_ | refine WIx.intsN (by omega) ?_ | refine WIx.rowsN (by omega) ?_ | refine WCall.pure (cA) ?_) <;> conv => whnf)
          refine Again.to (k + 1) (by omega) (by omega) ?_ ?_
          · show (nxK (B ++ tkL n l ((i : Int) + 1) (j : Int) k)).nat ≤ (nxK (B ++ tkL n l ((i : Int) + 1) (j : Int) (k + 1))).nat
            rw [hC, hkN]; exact Nat.le_refl _
          · rw [hst _ hkN]
            refine Shr.kp2 ?_ ?_ (T.le_refl _) (obK_kp E kpB kpL)
            · (repeat' first | exact T.le_e _ | refine T.le_some ?_ rfl ?_ | refine T.le_none ?_ ?_)
            · have h3 := nxK_two E
              show TAll (fun _ d => Kp (nxK E).nat d) _
              repeat' first | exact TAll.e | refine TAll.some ?_ ?_ ?_ | refine TAll.none ?_ ?_
              all_goals first | exact slK_kp E | (simp [Kp, Pu, Pos.nat]; done) | (simp [Kp, Pos.nat]; omega)
      · have he := hkE (by omega)
        repeat' first | ((first | with_reducible apply WB.tt | with_reducible apply WB.ff | refine Rn.seq ?_ | refine Rn.reg ?_ | refine Rn.drw ?_ | refine Rn.blk ?_ | refine Rn.skip ?_ | refine Rn.ret ?_ | refine Rn.exit ?_ | refine Rn.cond rfl ?_ | refine And.intro (InR.i64 (by omega) (by omega)) ?_ | refine And.intro (show _ ≠ (0 : Int) by omega) ?_ | refine WIx.intsN (by omega) ?_ | refine WIx.rowsN (by omega) ?_) <;> conv => whnf)
        refine Again.to (j + 1) (by omega) (by omega) ?_ ?_
        · show (nxK (A ++ chL3 n l ((i : Int) + 1) j)).nat ≤ (nxK (A ++ chL3 n l ((i : Int) + 1) (j + 1))).nat
          rw [hB, ← he]; exact hupk
        · show Shr _ (⟨(.n (.n (.n (.n .e (some (.i .i64 ((j + 1 : Nat) : Int))) .e) (some (.pt (.o .h) 0 0)) .e) none (.n .e (some (slK (A ++ chL3 n l ((i : Int) + 1) (j + 1)))) .e)) none (.n .e (some (.pt .h 0 0)) (.n .e (some (.i .i64 ((i : Int) + 1))) .e))), obK (bkC n coin box ls cs) (lnC l) (A ++ chL3 n l ((i : Int) + 1) (j + 1)), nxK (A ++ chL3 n l ((i : Int) + 1) (j + 1)), none⟩)
          rw [← he]
          refine Shr.kp2 ?_ ?_ (T.le_refl _) (obK_kp E kpB kpL)
          · (repeat' first | exact T.le_e _ | refine T.le_some ?_ rfl ?_ | refine T.le_none ?_ ?_)
          · have h3 := nxK_two E
            show TAll (fun _ d => Kp (nxK E).nat d) _
            repeat' first | exact TAll.e | refine TAll.some ?_ ?_ ?_ | refine TAll.none ?_ ?_
            all_goals first | exact slK_kp E | (simp [Kp, Pu, Pos.nat]; done) | (simp [Kp, Pos.nat]; omega)
    · have he := hjE (by omega)
      repeat' first | ((first | with_reducible apply WB.tt | with_reducible apply WB.ff | refine Rn.seq ?_ | refine Rn.reg ?_ | refine Rn.drw ?_ | refine Rn.blk ?_ | refine Rn.skip ?_ | refine Rn.ret ?_ | refine Rn.exit ?_ | refine Rn.cond rfl ?_ | refine And.intro (InR.i64 (by omega) (by omega)) ?_ | refine And.intro (show _ ≠ (0 : Int) by omega) ?_ | refine WIx.intsN (by omega) ?_ | refine WIx.rowsN (by omega) ?_) <;> conv => whnf)
      refine Again.to (i + 1) (by omega) (by omega) ?_ ?_
      · show (nxK (kdL n l i)).nat ≤ (nxK (kdL n l (i + 1))).nat
        rw [hA, ← he]; exact hupj
      · show Shr _ (⟨(.n (.n (.n .e (some (.pt (.o .h) 0 0)) .e) none (.n .e (some (slK (kdL n l (i + 1)))) .e)) none (.n .e (some (.pt .h 0 0)) (.n .e (some (.i .i64 (((i + 1 : Nat) : Int) + 1))) .e))), obK (bkC n coin box ls cs) (lnC l) (kdL n l (i + 1)), nxK (kdL n l (i + 1)), none⟩)
        rw [← he]
        refine Shr.kp2 ?_ ?_ (T.le_refl _) (obK_kp B kpB kpL)
        · (repeat' first | exact T.le_e _ | refine T.le_some ?_ rfl ?_ | refine T.le_none ?_ ?_)
        · have h3 := nxK_two B
          show TAll (fun _ d => Kp (nxK B).nat d) _
          repeat' first | exact TAll.e | refine TAll.some ?_ ?_ ?_ | refine TAll.none ?_ ?_
          all_goals first | exact slK_kp B | (simp [Kp, Pu, Pos.nat]; done) | (simp [Kp, Pos.nat]; omega)
  · repeat' first | ((first | with_reducible apply WB.tt | with_reducible apply WB.ff | refine Rn.seq ?_ | refine Rn.reg ?_ | refine Rn.drw ?_ | refine Rn.blk ?_ | refine Rn.skip ?_ | refine Rn.ret ?_ | refine Rn.exit ?_ | refine Rn.cond rfl ?_ | refine And.intro (InR.i64 (by omega) (by omega)) ?_ | refine And.intro (show _ ≠ (0 : Int) by omega) ?_ | refine WIx.intsN (by omega) ?_ | refine WIx.rowsN (by omega) ?_) <;> conv => whnf)
    have he := hiE (by omega)
    subst he
    refine Fin.t (.inr rfl) rfl ?_
    cases hT : readL n l with
    | nil => exact .ns
    | cons a s =>
      exact Frz.whole (cs := (lnF (a :: s)).map fun d => Cell.o d s.length) (cur := s.length + 1) rfl (by simp [rows]) (ln_three _) rfl (pu_ln _)
end Go.Ev